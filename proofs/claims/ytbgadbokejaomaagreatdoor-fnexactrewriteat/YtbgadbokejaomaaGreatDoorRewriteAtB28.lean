/-
  Codes for what is lost, the mathematics: any rows of the code, as many as there are data, can be solved; what is solved is what the data were. No call is walked here. Any rows of the code, as many as there are data, can be solved (Cauchy): plain mathematics. No call is walked here. Rising numbers below an end, and how many pieces may be lost: the program's functions and its model's, call by call. No condition. Rows taken out of a matrix by their numbers: the model's function, in one call. The contract says what it asks. What is not lost, and rows by their places: the program's functions, call by call. Each contract says what it asks. What is decoded of pieces, and that it is what was coded: plain mathematics over the program's and its model's rows. No call is walked here. Two rows swapped, and a row swapped up: the program's function and its model's, call by call. Each contract says what it asks. A column cleared: the program's function and its model's, call by call. Each contract says what it asks. The model's clearing of a column in a matrix and in another beside it, in one call. The contract says what it asks. Rows copied, from a place on or whole: the program's functions and its model's, call by call. Each contract says what it asks. How many rows are not told by others: the program's RankOf and its model's, at all rows. The program's table of rests must hold its seven numbers where the program's own function is called. A copy into part of a list of the call's own, the world told whole. Each law says what it asks. Rows put behind rows: a copy into part of a list of the call's own, and the program's joinRows. Each contract says what it asks. Rows solved: the program's solveRows, in one call. The contract says what it asks. Rows put behind rows where the second ones are empty, and such a matrix solved: the program's functions. Each contract says what it asks. Inverses: the program's InvertMatrix and its model's, at all rows. The program's table of rests must hold its seven numbers where the program's own function is called. The model's drawing of numbers out of bytes, call by call: each draw returns a number within its bounds, moves its own cursor on and touches nothing else that was there. Each contract says what it asks. What draws of matrices and lists begin with: a cursor made new, what it leaves alone. Each contract says what it asks. Unlike numbers drawn, and matrices: the model's draws, call by call. Each contract says what it asks. Pieces drawn: the model's draws of lists of pieces, call by call. Each contract says what it asks. A number put to its place, once: the model's function, call by call. No condition. Pieces decoded: the program's function and its model's, call by call. Each contract says what it asks: the pieces are lists of elements. UpdatePiece: the program's function, at all arguments. The program's table of rests must hold its seven numbers. UpdatePiece: the program's function and its model's, at all arguments. The program's table of rests must hold its seven numbers where the program's own function is called. UpdatePiece as the two public functions answer it, at all arguments. The program's table of rests must hold its seven numbers where the program's own function is called. DistanceOf: the program's function and its model's, at all rows. No condition. What the law of pieces asks of the mathematics: a piece put anew leaves a code a code, and what was none stays none; a piece that is changed changes every parity piece.
-/
import Derived.Test.YtbgadbokejaomaaGreatDoorRewriteAtB27
import Derived.Test.YtbgadbokejaomaaGreatDoorRewriteAtB24
import Derived.Test.YtbgadbokejaomaaGreatDoorRewriteAtB23
import Derived.Test.YtbgadbokejaomaaGreatDoorRewriteAtB21
import Derived.Test.YtbgadbokejaomaaGreatDoorRewriteAtB26
import Derived.Test.YtbgadbokejaomaaGreatDoorRewriteAtB5
import Derived.Deep.RegionLaw
import Derived.Test.YtbgadbokejaomaaGreatDoorRewriteAtB22
namespace Go.Proofs.YtbgadbokejaomaaGreatDoor
open Go.RowKit
namespace Gf

/-- The column j of a matrix. -/
def colJ (b : List (List Nat)) (j : Nat) : List Nat := b.map fun r => r.getD j 0
theorem colJ_get (b : List (List Nat)) (j t : Nat) : (colJ b j).getD t 0 = (b.getD t []).getD j 0 := by
  unfold colJ
  simp only [List.getD_eq_getElem?_getD, List.getElem?_map]
  cases b[t]? <;> simp
theorem colJ_lt {b : List (List Nat)} {n l : Nat} (h : Sh b n l) (j : Nat) : AllLt (colJ b j) := by
  intro t
  rw [colJ_get]
  exact h.elt t j
theorem mulRow_dot {b : List (List Nat)} {n l : Nat} (h : Sh b n l) (r : List Nat) (j : Nat) (hj : j < l) : ∀ k, k ≤ n → (mulRow b l r k).getD j 0 = dotTo r (colJ b j) k := by
  intro k
  induction k with
  | zero => intro _; rw [mulRow, dotTo, List.getD_eq_getElem?_getD, List.getElem?_replicate, if_pos hj]; rfl
  | succ k ih =>
    intro hk
    rw [mulRow, amTo_add _ _ _ (by rw [h.row k (by omega), mulRow_length]), addRow_get _ _ _ _ (by rw [mulRow_length]; exact hj) (by rw [h.row k (by omega)]; exact hj), ih (by omega), dotTo, colJ_get]
/-- A row times a matrix. -/
def rowL (R : List (List Nat)) (l n : Nat) (s : List Nat) : List Nat := mulRow R l s n
theorem rowL_length (R : List (List Nat)) (l n : Nat) (s : List Nat) : (rowL R l n s).length = l := mulRow_length _ _ _ _
theorem rowL_get {R : List (List Nat)} {n l : Nat} (h : Sh R n l) (s : List Nat) (j : Nat) (hj : j < l) : (rowL R l n s).getD j 0 = dotTo s (colJ R j) n := mulRow_dot h s j hj n (Nat.le_refl _)
theorem lin_row {R : List (List Nat)} {n l : Nat} (h : Sh R n l) : Lin (rowL R l n) n := by
  refine ⟨fun s f hl hs hf => ?_, fun s q f hl hl2 hs hq hf => ?_⟩
  · apply ext_getD 0 (by rw [rowL_length, sc_length, rowL_length])
    intro j hj
    rw [rowL_length] at hj
    rw [rowL_get h _ j hj, sc_get _ _ _ (by rw [rowL_length]; exact hj), rowL_get h _ j hj, dot_sc hs (colJ_lt h j) hf n (by omega)]
  · apply ext_getD 0 (by rw [rowL_length, addRow_length _ _ _ (by rw [rowL_length, rowL_length]), rowL_length])
    intro j hj
    rw [rowL_length] at hj
    rw [rowL_get h _ j hj, addRow_get _ _ _ _ (by rw [rowL_length]; exact hj) (by rw [rowL_length]; exact hj), rowL_get h _ j hj, rowL_get h _ j hj, dot_add hs hq (colJ_lt h j) hf (by omega) n (by omega)]
theorem ident_row {R : List (List Nat)} {n l : Nat} (h : Sh R n l) : (identN n).map (rowL R l n) = R := by
  apply ext_getD [] (by rw [List.length_map, (sh_ident n).len, h.len])
  intro i hi
  rw [List.length_map, (sh_ident n).len] at hi
  rw [map_get _ _ _ _ (by rw [(sh_ident n).len]; exact hi), identN_get n i hi]
  apply ext_getD 0 (by rw [rowL_length, h.row i hi])
  intro j hj
  rw [rowL_length] at hj
  rw [rowL_get h _ j hj, dot_unit (colJ_lt h j) hi, if_pos hi, colJ_get]
theorem inv_same {A : List (List Nat)} : ∀ k q, invTo A A k = some q → q.1 = q.2 := by
  intro k
  induction k with
  | zero => intro q h; simp only [invTo, Option.some.injEq] at h; subst h; rfl
  | succ k ih =>
    intro q h
    rw [invTo] at h
    cases e : invTo A A k with
    | none => rw [e] at h; simp at h
    | some r =>
      rw [e] at h
      simp only [] at h
      cases e2 : piv r.1 k k with
      | none => rw [e2] at h; simp at h
      | some p =>
        rw [e2] at h
        simp only [Option.some.injEq] at h
        subst h
        simp only [clr]
        rw [← ih r e]
theorem solN_self {A : List (List Nat)} {n : Nat} (ha : Sh A n n) (hok : (solN A (identN n)).2 = true) : solN A A = (identN n, true) := by
  have e := solN_map (lin_row ha) ha (sh_ident n)
  rw [ident_row ha, hok] at e
  have hb : (solN A A).2 = true := by rw [e]
  unfold solN at hb ⊢
  rw [ha.len] at hb ⊢
  cases h : invTo A A n with
  | none => rw [h] at hb; cases hb
  | some q =>
    have hs := inv_same n q h
    have hu := inv_unit ha ha (Nat.le_refl _) n (Nat.le_refl _) q h
    obtain ⟨s1, s2⟩ := invTo_sh ha ha n (Nat.le_refl _) q h
    simp only [Prod.mk.injEq, and_true]
    rw [← hs]
    apply ext_getD [] (by rw [s1.len, (sh_ident n).len])
    intro i hi
    rw [s1.len] at hi
    rw [identN_get n i hi]
    apply ext_getD 0 (by rw [s1.row i hi]; simp [unitN])
    intro j hj
    rw [s1.row i hi] at hj
    rw [hu i j hi hj, unitN_get n i j hi]
    by_cases e : i = j
    · rw [if_pos e, if_pos e.symm]
    · rw [if_neg e, if_neg (fun h => e h.symm)]
/-- What is solved of a matrix times something is that. -/
theorem solN_back {A R : List (List Nat)} {n l : Nat} (ha : Sh A n n) (hr : Sh R n l) (hok : (solN A (identN n)).2 = true) : solN A (A.map (rowL R l n)) = (R, true) := by
  rw [solN_map (lin_row hr) ha ha, solN_self ha hok, ident_row hr]
/-- Rows by their places. -/
def selM {α : Type} (M : List (List α)) (f : List Nat) : List (List α) := f.map fun k => M.getD k []
theorem selM_length {α : Type} (M : List (List α)) (f : List Nat) : (selM M f).length = f.length := by simp [selM]
theorem selM_get {α : Type} (M : List (List α)) (f : List Nat) (i : Nat) (h : i < f.length) : (selM M f).getD i [] = M.getD (f.getD i 0) [] := by
  unfold selM
  rw [List.getD_eq_getElem?_getD, List.getElem?_map, List.getElem?_eq_getElem h, List.getD_eq_getElem?_getD (l := f), List.getElem?_eq_getElem h]
  rfl
/-- The rows of a code. -/
def codeN (D Q : Nat) : List (List Nat) := (codeM D Q).map nat
theorem codeN_get (D Q k : Nat) : (codeN D Q).getD k [] = nat ((codeM D Q).getD k []) := by
  unfold codeN
  simp only [List.getD_eq_getElem?_getD, List.getElem?_map]
  cases (codeM D Q)[k]? <;> rfl
theorem nat_allLt {l : List Int} (h : l.all elOk = true) : AllLt (nat l) := by
  intro i
  unfold nat
  rw [List.getD_eq_getElem?_getD, List.getElem?_map]
  cases e : l[i]? with
  | none => show 0 < 256; decide
  | some z =>
    have := elOk_iff.1 (List.all_eq_true.1 h z (List.mem_of_getElem? e))
    show z.toNat < 256
    omega
theorem sh_code (D Q : Nat) : Sh (codeN D Q) (D + Q) D := by
  refine ⟨by unfold codeN; rw [List.length_map, codeM_length], fun i hi => ?_, fun i hi => ?_⟩
  · rw [codeN_get, nat_length]; exact (codeM_rows D Q i (by rw [codeM_length]; exact hi)).1
  · rw [codeN_get]; exact nat_allLt (codeM_rows D Q i (by rw [codeM_length]; exact hi)).2
theorem sh_sel {M : List (List Nat)} {n l : Nat} (h : Sh M n l) {f : List Nat} (hf : ∀ k ∈ f, k < n) : Sh (selM M f) f.length l := by
  refine ⟨selM_length _ _, fun i hi => ?_, fun i hi => ?_⟩
  · rw [selM_get _ _ _ hi]
    exact h.row _ (hf _ (by rw [List.getD_eq_getElem?_getD, List.getElem?_eq_getElem hi]; exact List.getElem_mem hi))
  · rw [selM_get _ _ _ hi]
    exact h.lt _ (hf _ (by rw [List.getD_eq_getElem?_getD, List.getElem?_eq_getElem hi]; exact List.getElem_mem hi))
theorem code_low {D Q k : Nat} (h : k < D) : (codeN D Q).getD k [] = unitN D k := by
  rw [codeN_get]
  unfold codeM
  rw [getD_app, identM_length, if_pos h, identM_get _ _ h, ← ci_unit]
  unfold nat ci
  rw [List.map_map]
  conv => rhs; rw [← List.map_id (unitN D k)]
  exact List.map_congr_left fun x _ => by simp
theorem code_high {D Q k j : Nat} (h : D ≤ k) (hk : k < D + Q) (hj : j < D) : ((codeN D Q).getD k []).getD j 0 = inv ((k - D) ^^^ (Q + j)) := by
  rw [codeN_get]
  unfold codeM
  rw [getD_app, identM_length, if_neg (by omega), cauM_get _ _ _ (by rw [cnt_length]; omega)]
  unfold nat
  rw [List.getD_eq_getElem?_getD, List.getElem?_map]
  have hl : j < (cauRow ((cnt 0 Q).getD (k - D) 0) (cnt Q D)).length := by rw [cauRow_length, cnt_length]; exact hj
  have e := cauRow_get ((cnt 0 Q).getD (k - D) 0) (cnt Q D) j (by rw [cnt_length]; exact hj)
  rw [List.getD_eq_getElem?_getD, List.getElem?_eq_getElem hl, Option.getD_some] at e
  rw [List.getElem?_eq_getElem hl, Option.map_some, Option.getD_some, e, cnt_get _ _ _ (by omega), cnt_get _ _ _ hj, Int.toNat_natCast, Int.toNat_natCast, Int.toNat_natCast, Nat.zero_add]
end Gf
end Go.Proofs.YtbgadbokejaomaaGreatDoor

namespace Go.Proofs.YtbgadbokejaomaaGreatDoor
open Go.RowKit
namespace Gf

/-- The numbers below n that p tells. -/
def those (p : Nat → Bool) (n : Nat) : List Nat := (List.range n).filter p
theorem those_succ (p : Nat → Bool) (n : Nat) : those p (n + 1) = those p n ++ (if p n then [n] else []) := by
  unfold those
  rw [List.range_succ, List.filter_append]
  cases h : p n <;> simp [h]
theorem those_mem {p : Nat → Bool} {n k : Nat} : k ∈ those p n ↔ k < n ∧ p k = true := by simp [those]
theorem those_not (p : Nat → Bool) (n : Nat) : (those p n).length + (those (fun k => !p k) n).length = n := by
  induction n with
  | zero => rfl
  | succ n ih =>
    rw [those_succ, those_succ]
    cases p n <;> simp <;> omega
theorem those_prefix (p : Nat → Bool) (m : Nat) : ∀ d, ∃ r, those p (m + d) = those p m ++ r := by
  intro d
  induction d with
  | zero => exact ⟨[], by simp⟩
  | succ d ih =>
    obtain ⟨r, hr⟩ := ih
    exact ⟨r ++ (if p (m + d) then [m + d] else []), by rw [← Nat.add_assoc, those_succ, hr, List.append_assoc]⟩
theorem those_getD {p : Nat → Bool} {m n : Nat} (h : m < n) (hp : p m = true) : (those p n).getD (those p m).length 0 = m := by
  obtain ⟨r, hr⟩ := those_prefix p (m + 1) (n - (m + 1))
  rw [show m + 1 + (n - (m + 1)) = n by omega] at hr
  rw [hr, those_succ, hp]
  simp
theorem those_lt {p : Nat → Bool} {n : Nat} (h : 0 < n) (t : Nat) : (those p n).getD t 0 < n := by
  rw [List.getD_eq_getElem?_getD]
  cases e : (those p n)[t]? with
  | none => exact h
  | some z => exact (those_mem.1 (List.mem_of_getElem? e)).1
theorem those_at {p : Nat → Bool} {n t : Nat} (h : t < (those p n).length) : (those p n).getD t 0 < n ∧ p ((those p n).getD t 0) = true := by
  rw [List.getD_eq_getElem?_getD, List.getElem?_eq_getElem h, Option.getD_some]
  exact those_mem.1 (List.getElem_mem h)
theorem those_inj {p : Nat → Bool} {n s t : Nat} (hs : s < (those p n).length) (ht : t < (those p n).length) (h : s ≠ t) : (those p n).getD s 0 ≠ (those p n).getD t 0 := by
  have hp : (those p n).Pairwise (· < ·) := List.Pairwise.filter _ List.pairwise_lt_range
  rw [List.pairwise_iff_getElem] at hp
  rw [List.getD_eq_getElem?_getD, List.getElem?_eq_getElem hs, List.getD_eq_getElem?_getD, List.getElem?_eq_getElem ht, Option.getD_some, Option.getD_some]
  rcases Nat.lt_or_gt_of_ne h with hl | hl
  · have := hp s t hs ht hl; omega
  · have := hp t s ht hs hl; omega
theorem those_find {p : Nat → Bool} {n k : Nat} (hk : k < n) (hp : p k = true) : ∃ t, t < (those p n).length ∧ (those p n).getD t 0 = k := by
  obtain ⟨t, ht, e⟩ := List.getElem_of_mem (those_mem.2 ⟨hk, hp⟩)
  exact ⟨t, ht, by rw [List.getD_eq_getElem?_getD, List.getElem?_eq_getElem ht]; exact e⟩
theorem those_add (p : Nat → Bool) (a b : Nat) : those p (a + b) = those p a ++ (those (fun i => p (a + i)) b).map (a + ·) := by
  induction b with
  | zero => simp [those]
  | succ b ih =>
    rw [← Nat.add_assoc, those_succ, ih, those_succ, List.map_append, List.append_assoc]
    congr 2
    cases p (a + b) <;> rfl
/-- The sum over all columns is the sum over those that are not struck, where the struck ones' numbers are 0. -/
theorem dot_those {r z : List Nat} {x Q D : Nat} {p : Nat → Bool} (hz : AllLt z) (hr : ∀ j, j < D → r.getD j 0 = inv (x ^^^ (Q + j))) (h0 : ∀ j, j < D → p j = false → z.getD j 0 = 0) :
    ∀ m, m ≤ D → dotTo r z m = cs (fun t => z.getD ((those p D).getD t 0) 0) (fun t => Q + (those p D).getD t 0) x (those p m).length := by
  intro m
  induction m with
  | zero => intro _; rfl
  | succ m ih =>
    intro hm
    rw [dotTo, ih (by omega), those_succ]
    cases h : p m with
    | false =>
      rw [h0 m (by omega) h, mul_zero, Nat.xor_zero]
      simp
    | true =>
      rw [if_pos rfl, List.length_append, List.length_singleton, cs, those_getD (by omega) h, hr m (by omega), mul_comm _ _ (inv_lt _) (hz m)]
/-- Any rows of a code, as many as data, take no column but noughts to noughts. -/
theorem code_kern {D Q : Nat} {p : Nat → Bool} (hD : 0 < D) (hDQ : D + Q ≤ 16) (hn : (those p (D + Q)).length = D) (z : List Nat) (hz : AllLt z)
    (h : ∀ i, i < D → dotTo ((selM (codeN D Q) (those p (D + Q))).getD i []) z D = 0) : ∀ j, j < D → z.getD j 0 = 0 := by
  have hrow : ∀ k, k < D + Q → p k = true → dotTo ((codeN D Q).getD k []) z D = 0 := by
    intro k hk hp
    obtain ⟨t, ht, e⟩ := those_find hk hp
    have := h t (by omega)
    rw [selM_get _ _ _ ht, e] at this
    exact this
  have hlow : ∀ j, j < D → p j = true → z.getD j 0 = 0 := by
    intro j hj hp
    have := hrow j (by omega) hp
    rw [code_low hj, dot_unit hz hj, if_pos hj] at this
    exact this
  have hlen : (those (fun k => !p k) D).length = (those (fun i => p (D + i)) Q).length := by
    have h1 := those_not p D
    rw [those_add, List.length_append, List.length_map] at hn
    omega
  by_cases hQ : Q = 0
  · intro j hj
    subst hQ
    cases hp : p j with
    | true => exact hlow j hj hp
    | false =>
      have : (those (fun k => !p k) D).length = 0 := by rw [hlen]; rfl
      obtain ⟨t, ht, _⟩ := those_find (p := fun k => !p k) hj (by simp [hp])
      omega
  have key := cauchy_zero (those (fun k => !p k) D).length (fun i => (those (fun i => p (D + i)) Q).getD i 0) (fun t => Q + (those (fun k => !p k) D).getD t 0) (fun t => z.getD ((those (fun k => !p k) D).getD t 0) 0)
    (fun i => by have := those_lt (p := fun i => p (D + i)) (n := Q) (by omega) i; show _ < 256; omega)
    (fun j => by have := those_lt (p := fun k => !p k) (n := D) hD j; show _ < 256; omega)
    (fun j => hz _)
    (fun i j hi hj e => those_inj (by rw [← hlen]; exact hi) (by rw [← hlen]; exact hj) e)
    (fun i j hi hj e => by have := those_inj (p := fun k => !p k) (n := D) hi hj e; show _ ≠ _; omega)
    (fun i j _ _ => by have := those_lt (p := fun i => p (D + i)) (n := Q) (by omega) i; show _ ≠ _; omega)
    (fun i hi => by
      obtain ⟨h1, h2⟩ := those_at (p := fun i => p (D + i)) (n := Q) (t := i) (by rw [← hlen]; exact hi)
      have h3 := hrow _ (by omega) h2
      rw [dot_those (x := (those (fun i => p (D + i)) Q).getD i 0) (Q := Q) (p := fun k => !p k) hz (fun j hj => by rw [code_high (by omega) (by omega) hj, Nat.add_sub_cancel_left]) (fun j hj hp => hlow j hj (by simpa using hp)) D (Nat.le_refl _)] at h3
      exact h3)
  intro j hj
  cases hp : p j with
  | true => exact hlow j hj hp
  | false =>
    obtain ⟨t, ht, e⟩ := those_find (p := fun k => !p k) hj (by simp [hp])
    have := key t ht
    simp only [e] at this
    exact this
theorem code_inv {D Q : Nat} {p : Nat → Bool} (hD : 0 < D) (hDQ : D + Q ≤ 16) (hn : (those p (D + Q)).length = D) : Sh (selM (codeN D Q) (those p (D + Q))) D D ∧ (solN (selM (codeN D Q) (those p (D + Q))) (identN D)).2 = true := by
  have hs : Sh (selM (codeN D Q) (those p (D + Q))) D D := by
    have := sh_sel (sh_code D Q) (f := those p (D + Q)) (fun k hk => (those_mem.1 hk).1)
    rw [hn] at this
    exact this
  exact ⟨hs, solN_ok hs (sh_ident D) fun z _ hz h => code_kern hD hDQ hn z hz h⟩
/-- The first ones of those that are told. -/
theorem those_take (q : Nat → Bool) (D n : Nat) : (those q n).take D = those (fun k => q k && decide ((those q k).length < D)) n := by
  induction n with
  | zero => simp [those]
  | succ n ih =>
    rw [those_succ, those_succ, ← ih]
    cases h : q n with
    | false => simp
    | true =>
      by_cases hl : (those q n).length < D
      · rw [if_pos rfl, List.take_of_length_le (by simp; omega), List.take_of_length_le (by omega)]
        simp [hl]
      · rw [if_pos rfl, List.take_append_of_le_length (by omega)]
        simp [hl]
end Gf
end Go.Proofs.YtbgadbokejaomaaGreatDoor

namespace Go.Proofs.YtbgadbokejaomaaGreatDoor
open Go.RowKit

/-- The number at place i is at least 0, below the end, and greater than the one ahead of it. -/
def risAtM (xs : List Int) (e : Int) (i : Nat) : Bool := decide (0 ≤ xs.getD i 0 ∧ xs.getD i 0 < e ∧ (i = 0 ∨ xs.getD (i - 1) 0 < xs.getD i 0))
def risesM (xs : List Int) (e : Int) : Bool := (List.range xs.length).all (risAtM xs e)
def canOk (d q : Int) (xs : List Int) : Bool := codeOk d q && risesM xs (d + q)
def canR (d q : Int) (xs : List Int) : Bool × Bool := if canOk d q xs = true then (decide ((xs.length : Int) ≤ q), true) else (false, false)

end Go.Proofs.YtbgadbokejaomaaGreatDoor

namespace Go.Proofs.YtbgadbokejaomaaGreatDoor
open Go.RowKit

end Go.Proofs.YtbgadbokejaomaaGreatDoor

namespace Go.Proofs.YtbgadbokejaomaaGreatDoor
open Go.RowKit

/-- Whether a number is not among some. -/
def kp (xs : List Int) (k : Nat) : Bool := decide ((k : Int) ∉ xs)
end Go.Proofs.YtbgadbokejaomaaGreatDoor

namespace Go.Proofs.YtbgadbokejaomaaGreatDoor
open Go.RowKit
open Gf (ci nat ciM Sh AllLt invTo solN selM codeN those rowL identN elOk)

theorem those_one (p : Nat → Bool) (x : Int) : ∀ n : Nat, (those (fun k => decide ((k : Int) = x) || p k) n).length ≤ (those p n).length + (if x < (n : Int) then 1 else 0) := by
  intro n
  induction n with
  | zero => simp [those]
  | succ n ih =>
    rw [Gf.those_succ, Gf.those_succ, List.length_append, List.length_append]
    by_cases e : (n : Int) = x
    · subst e
      rw [if_neg (show ¬ (n : Int) < (n : Int) by omega)] at ih
      have t : (decide ((n : Int) = (n : Int)) || p n) = true := by simp
      rw [t, show (if (n : Int) < ((n + 1 : Nat) : Int) then 1 else 0) = 1 from if_pos (by omega)]
      simp only [if_true, List.length_singleton]
      omega
    · have e2 : (decide ((n : Int) = x) || p n) = p n := by rw [decide_eq_false e, Bool.false_or]
      rw [e2]
      by_cases h : x < (n : Int)
      · rw [if_pos h] at ih
        rw [show (if x < ((n + 1 : Nat) : Int) then 1 else 0) = 1 from if_pos (by omega)]
        omega
      · rw [if_neg h] at ih
        omega
theorem those_in (xs : List Int) (n : Nat) : (those (fun k => !kp xs k) n).length ≤ xs.length := by
  induction xs with
  | nil =>
    have e : (fun k : Nat => !kp [] k) = fun _ => false := by funext k; simp [kp]
    rw [e]
    simp [those]
  | cons x xs ih =>
    have e : (fun k : Nat => !kp (x :: xs) k) = fun k : Nat => decide ((k : Int) = x) || !kp xs k := by
      funext k
      simp only [kp, List.mem_cons, not_or]
      by_cases h1 : (k : Int) = x <;> by_cases h2 : (k : Int) ∈ xs <;> simp [h1, h2]
    rw [e, List.length_cons]
    have := those_one (fun k => !kp xs k) x n
    split at this <;> omega
theorem kept_length (xs : List Int) (D Q : Nat) (h : xs.length ≤ Q) : D ≤ (those (kp xs) (D + Q)).length := by
  have h1 := Gf.those_not (kp xs) (D + Q)
  have h2 := those_in xs (D + Q)
  omega
/-- The first places, as many as data, that are not lost. -/
def firstF (xs : List Int) (D Q : Nat) : List Nat := (those (kp xs) (D + Q)).take D
theorem firstF_length (xs : List Int) (D Q : Nat) (h : xs.length ≤ Q) : (firstF xs D Q).length = D := by
  unfold firstF
  rw [List.length_take]
  have := kept_length xs D Q h
  omega
theorem firstF_mem {xs : List Int} {D Q k : Nat} (h : k ∈ firstF xs D Q) : k < D + Q ∧ (k : Int) ∉ xs := by
  obtain ⟨h1, h2⟩ := Gf.those_mem.1 (List.mem_of_mem_take h)
  exact ⟨h1, by simpa [kp] using h2⟩
theorem first_inv {xs : List Int} {D Q : Nat} (hD : 0 < D) (hDQ : D + Q ≤ 16) (h : xs.length ≤ Q) : Sh (selM (codeN D Q) (firstF xs D Q)) D D ∧ (solN (selM (codeN D Q) (firstF xs D Q)) (identN D)).2 = true := by
  have hl := firstF_length xs D Q h
  unfold firstF at hl ⊢
  rw [Gf.those_take] at hl ⊢
  exact Gf.code_inv hD hDQ hl
theorem sh_pieces {m : List (List Int)} (h : piecesOk m = true) : Sh (m.map nat) m.length (m.getD 0 []).length := by
  refine ⟨by rw [List.length_map], fun i hi => ?_, fun i hi => ?_⟩
  · rw [natM_get, Gf.nat_length]; exact (piecesOk_at h i hi).1
  · rw [natM_get]; exact Gf.nat_allLt (piecesOk_at h i hi).2.2
theorem ci_nat {l : List Int} (h : l.all elOk = true) : ci (nat l) = l := by
  unfold ci nat
  rw [List.map_map]
  conv => rhs; rw [← List.map_id l]
  refine List.map_congr_left fun x hx => ?_
  have := Gf.elOk_iff.1 (List.all_eq_true.1 h x hx)
  show ((x.toNat : Nat) : Int) = x
  omega
theorem nat_ciE (l : List Nat) : nat (ci l) = l := by
  unfold nat ci
  rw [List.map_map]
  conv => rhs; rw [← List.map_id l]
  exact List.map_congr_left fun x _ => by simp
theorem ciM_natM {m : List (List Int)} (h : ∀ i, i < m.length → (m.getD i []).all elOk = true) : ciM (m.map nat) = m := by
  unfold ciM
  rw [List.map_map]
  conv => rhs; rw [← List.map_id m]
  refine List.map_congr_left fun r hr => ?_
  obtain ⟨i, hi, rfl⟩ := List.getElem_of_mem hr
  have := h i hi
  rw [List.getD_eq_getElem?_getD, List.getElem?_eq_getElem hi] at this
  exact ci_nat this
theorem natM_ciM (M : List (List Nat)) : (ciM M).map nat = M := by
  unfold ciM
  rw [List.map_map]
  conv => rhs; rw [← List.map_id M]
  exact List.map_congr_left fun r _ => nat_ciE r
theorem elOk_lt {l : List Nat} (h : AllLt l) : (ci l).all elOk = true := by
  rw [List.all_eq_true]
  intro x hx
  obtain ⟨k, hk, rfl⟩ := List.mem_map.1 hx
  obtain ⟨i, hi, rfl⟩ := List.getElem_of_mem hk
  have := h i
  rw [List.getD_eq_getElem?_getD, List.getElem?_eq_getElem hi, Option.getD_some] at this
  exact Gf.elOk_iff.2 (by omega)
theorem pieces_sh {X : List (List Nat)} {n l : Nat} (h : Sh X n l) (hl : l ≤ 32) : piecesOk (ciM X) = true := by
  refine piecesOk_yes fun i hi => ?_
  rw [Gf.ciM_length, h.len] at hi
  have h0 : 0 < n := by omega
  unfold pieceAt
  rw [Gf.ciM_get, Gf.ciM_get, Gf.ci_length, Gf.ci_length, h.row i hi, h.row 0 h0, decide_eq_true ⟨rfl, hl⟩, elOk_lt (h.lt i hi)]
  rfl
theorem code_ciM (D Q : Nat) : ciM (codeN D Q) = codeM D Q := ciM_natM fun i hi => (codeM_rows D Q i hi).2
theorem mul_row {A R : List (List Nat)} {n l k : Nat} (ha : Sh A k n) (hr : Sh R n l) (hn : 0 < n) : mulM (ciM A) (ciM R) = ciM (A.map (rowL R l n)) := by
  unfold mulM
  rw [natM_ciM, Gf.ciM_get, Gf.ci_length, hr.row 0 hn]
  unfold ciM
  rw [List.map_map, List.map_map]
  refine List.map_congr_left fun r hx => ?_
  obtain ⟨i, hi, rfl⟩ := List.getElem_of_mem hx
  have hl : A[i].length = n := by
    have := ha.row i (by rw [← ha.len]; exact hi)
    rw [List.getD_eq_getElem?_getD, List.getElem?_eq_getElem hi] at this
    exact this
  show ci (mulRow R l (nat (ci A[i])) (ci A[i]).length) = ci (rowL R l n A[i])
  rw [nat_ciE, Gf.ci_length, hl]
  rfl
theorem sh_mul {A R : List (List Nat)} {n l k : Nat} (ha : Sh A k n) (_ : Sh R n l) : Sh (A.map (rowL R l n)) k l := by
  refine ⟨by rw [List.length_map, ha.len], fun i hi => ?_, fun i hi => ?_⟩
  · rw [Gf.map_get _ _ _ _ (by rw [ha.len]; exact hi), Gf.rowL_length]
  · rw [Gf.map_get _ _ _ _ (by rw [ha.len]; exact hi)]
    exact mulRow_lt (ha.lt i hi) _

/-- What is decoded: the data, as plain numbers. -/
def decX (D Q : Nat) (m : List (List Int)) (xs : List Int) : List (List Nat) := (solN (selM (codeN D Q) (firstF xs D Q)) (selM (m.map nat) (firstF xs D Q))).1
/-- What is decoded: all pieces. -/
def decM (D Q : Nat) (m : List (List Int)) (xs : List Int) : List (List Int) := mulM (codeM D Q) (ciM (decX D Q m xs))
def decOk (d q : Int) (m : List (List Int)) (xs : List Int) : Bool := ((canR d q xs).1 && (canR d q xs).2) && (decide ((m.length : Int) = d + q) && piecesOk m)
def decR (d q : Int) (m : List (List Int)) (xs : List Int) : List (List Int) × Bool := if decOk d q m xs = true then (decM d.toNat q.toNat m xs, true) else ([], false)
/-- What decoding rests on. -/
structure DecF (D Q l : Nat) (m : List (List Int)) (xs : List Int) : Prop where
  d1 : 1 ≤ D
  d6 : D ≤ 6
  q1 : 1 ≤ Q
  q4 : Q ≤ 4
  ris : risesM xs ((D + Q : Nat) : Int) = true
  xl : xs.length ≤ Q
  ml : m.length = D + Q
  l0 : (m.getD 0 []).length = l
  l32 : l ≤ 32
  ok : piecesOk m = true
theorem DecF.shA {D Q l : Nat} {m : List (List Int)} {xs : List Int} (h : DecF D Q l m xs) : Sh (selM (codeN D Q) (firstF xs D Q)) D D ∧ (solN (selM (codeN D Q) (firstF xs D Q)) (identN D)).2 = true :=
  first_inv (by have := h.d1; omega) (by have := h.d6; have := h.q4; omega) h.xl
/-- Where the first pieces that are not lost are those of a code, all of it is decoded. -/
theorem dec_back {D Q l : Nat} {m c : List (List Int)} {xs : List Int} (h : DecF D Q l m xs) (hc : piecesOk c = true) (hcl : c.length = D) (hc0 : (c.getD 0 []).length = l) (hm : ∀ k, k < D + Q → (k : Int) ∉ xs → m.getD k [] = (mulM (codeM D Q) c).getD k []) : decX D Q m xs = c.map nat := by
  have hs := sh_pieces hc
  rw [hcl, hc0] at hs
  have e : selM (m.map nat) (firstF xs D Q) = (selM (codeN D Q) (firstF xs D Q)).map (rowL (c.map nat) l D) := by
    unfold selM
    rw [List.map_map]
    refine List.map_congr_left fun k hk => ?_
    obtain ⟨hk1, hk2⟩ := firstF_mem hk
    have he : mulM (codeM D Q) c = ciM ((codeN D Q).map (rowL (c.map nat) l D)) := by
      rw [← mul_row (Gf.sh_code D Q) hs (by have := h.d1; omega), code_ciM, ciM_natM fun i hi => (piecesOk_at hc i hi).2.2]
    show (m.map nat).getD k [] = rowL (c.map nat) l D ((codeN D Q).getD k [])
    rw [natM_get, hm k hk1 hk2, he, Gf.ciM_get, nat_ciE, Gf.map_get _ _ _ _ (by rw [(Gf.sh_code D Q).len]; exact hk1)]
  unfold decX
  rw [e, Gf.solN_back h.shA.1 hs h.shA.2]
theorem dec_code {D Q l : Nat} {m c : List (List Int)} {xs : List Int} (h : DecF D Q l m xs) (hc : piecesOk c = true) (hcl : c.length = D) (hc0 : (c.getD 0 []).length = l) (hm : ∀ k, k < D + Q → (k : Int) ∉ xs → m.getD k [] = (mulM (codeM D Q) c).getD k []) : decM D Q m xs = mulM (codeM D Q) c := by
  unfold decM
  rw [dec_back h hc hcl hc0 hm, ciM_natM fun i hi => (piecesOk_at hc i hi).2.2]
end Go.Proofs.YtbgadbokejaomaaGreatDoor

namespace Go.Proofs.YtbgadbokejaomaaGreatDoor
open Go.RowKit
open Gf (ci ciM swapM pf piv Sh AllLt)

theorem MatV.swap {w : World} {lo hi g n cap : Nat} {vs : List Value} {m : List (List Int)} (h : MatV w lo hi (.slice (some ⟨g, 0, none⟩) n cap) vs m) (a b : Nat) (ha : a < m.length) (hb : b < m.length) :
    MatV ((w.setCell ⟨g, a, none⟩ (vs.getD b nilRow)).setCell ⟨g, b, none⟩ (vs.getD a nilRow)) lo hi (.slice (some ⟨g, 0, none⟩) n cap) ((vs.set a (vs.getD b nilRow)).set b (vs.getD a nilRow)) ((m.set a (m.getD b [])).set b (m.getD a [])) ∧
      w.grownBy ((w.setCell ⟨g, a, none⟩ (vs.getD b nilRow)).setCell ⟨g, b, none⟩ (vs.getD a nilRow)) (some g) := by
  obtain rfl := h.lenEq
  have st1 := World.ownsRow.stored h.head a (vs.getD b nilRow)
  have st2 := World.ownsRow.stored st1.1 b (vs.getD a nilRow)
  have hg : w.grownBy ((w.setCell ⟨g, a, none⟩ (vs.getD b nilRow)).setCell ⟨g, b, none⟩ (vs.getD a nilRow)) (some g) := Gf.grownBy_trans st1.2 st2.2
  have hla : a < vs.length := by rw [h.len]; exact ha
  have hlb : b < vs.length := by rw [h.len]; exact hb
  have gv : ∀ i, ((vs.set a (vs.getD b nilRow)).set b (vs.getD a nilRow)).getD i nilRow = vs.getD (if i = b then a else if i = a then b else i) nilRow := by
    intro i
    rw [getD_set _ _ _ _ _ (by rw [List.length_set]; exact hlb), getD_set _ _ _ _ _ hla]
    split
    · rfl
    · split <;> rfl
  have gm : ∀ i, ((m.set a (m.getD b [])).set b (m.getD a [])).getD i [] = m.getD (if i = b then a else if i = a then b else i) [] := by
    intro i
    rw [getD_set _ _ _ _ _ (by rw [List.length_set]; exact hb), getD_set _ _ _ _ _ ha]
    split
    · rfl
    · split <;> rfl
  have sl : ∀ i, i < m.length → (if i = b then a else if i = a then b else i) < m.length := by
    intro i hi
    split
    · exact ha
    · split
      · exact hb
      · exact hi
  have ml : ((m.set a (m.getD b [])).set b (m.getD a [])).length = m.length := by simp
  refine ⟨⟨by simp [h.len], by rw [ml]; exact st2.1, ?_, h.top, ?_, ?_⟩, hg⟩
  · intro i hi
    rw [ml] at hi
    rw [gv, gm]
    exact World.ownsRow.kept (h.row _ (sl i hi)) hg (heads_apart' h.head (h.row _ (sl i hi)))
  · intro i k hi hk
    rw [ml] at hi
    rw [gv] at hk
    exact h.tops _ k (sl i hi) hk
  · intro i j hi hj hij
    rw [ml] at hi hj
    rw [gv, gv]
    refine h.apart _ _ (sl i hi) (sl j hj) ?_
    split <;> split <;> (try split) <;> (try split) <;> omega
theorem MatV.shape {w : World} {lo hi : Nat} {v : Value} {vs : List Value} {m : List (List Int)} (h : MatV w lo hi v vs m) (i : Nat) (hi' : i < m.length) : ∃ a n c, vs.getD i nilRow = .slice a n c := (h.row i hi').shape

end Go.Proofs.YtbgadbokejaomaaGreatDoor

namespace Go.Proofs.YtbgadbokejaomaaGreatDoor
open Go.RowKit
open Gf (ci ciM swapM pf piv Sh AllLt clearM addRow headM opM hOf fOf clr sc inv mul amTo)

end Go.Proofs.YtbgadbokejaomaaGreatDoor

namespace Go.Proofs.YtbgadbokejaomaaGreatDoor
open Go.RowKit
open Gf (ci ciM swapM pf piv Sh AllLt clearM addRow headM opM hOf fOf clr sc inv mul amTo)

end Go.Proofs.YtbgadbokejaomaaGreatDoor

namespace Go.Proofs.YtbgadbokejaomaaGreatDoor
open Go.RowKit

end Go.Proofs.YtbgadbokejaomaaGreatDoor

namespace Go.Proofs.YtbgadbokejaomaaGreatDoor
open Go.RowKit
open Gf (ci nat ciM swapM pf piv Sh AllLt clr redM)

end Go.Proofs.YtbgadbokejaomaaGreatDoor

namespace Go.Proofs.YtbgadbokejaomaaGreatDoor
open Go.RowKit

end Go.Proofs.YtbgadbokejaomaaGreatDoor

namespace Go.Proofs.YtbgadbokejaomaaGreatDoor
open Go.RowKit

end Go.Proofs.YtbgadbokejaomaaGreatDoor

namespace Go.Proofs.YtbgadbokejaomaaGreatDoor
open Go.RowKit
open Gf (ci nat ciM Sh AllLt redM joinN invTo solN)

end Go.Proofs.YtbgadbokejaomaaGreatDoor

namespace Go.Proofs.YtbgadbokejaomaaGreatDoor
open Go.RowKit
open Gf (ci ciM Sh AllLt invTo solN joinN redM)

end Go.Proofs.YtbgadbokejaomaaGreatDoor

namespace Go.Proofs.YtbgadbokejaomaaGreatDoor
open Go.RowKit
open Gf (ci nat ciM Sh AllLt redM joinN invTo solN identN piv clr opM hOf fOf)

end Go.Proofs.YtbgadbokejaomaaGreatDoor

namespace Go.Proofs.YtbgadbokejaomaaGreatDoor
open Go.RowKit

/-- The value v is a slice of bytes that can be read, in this world. -/
def RdB (w : World) (v : Value) : Prop :=
  ∃ a cap, ∃ zs : List Nat, v = .slice a zs.length cap ∧ zs.length ≤ 281474976710656 ∧ Gf.AllLt zs ∧
    (zs = [] ∨ ∃ b off, a = some ⟨b, off, none⟩ ∧ b < w.heap.size ∧ ∀ i, i < zs.length → w.cell? ⟨b, off + i, none⟩ = some (.int .u8 (zs.getD i 0 : Nat)))
theorem RdB.below {w w' : World} {v : Value} (h : RdB w v) (hb : Below w.heap.size w w') : RdB w' v := by
  obtain ⟨a, cap, zs, rfl, h1, h2, h3⟩ := h
  refine ⟨a, cap, zs, rfl, h1, h2, ?_⟩
  rcases h3 with h3 | ⟨b, off, rfl, hlt, hc⟩
  · exact .inl h3
  · exact .inr ⟨b, off, rfl, Nat.lt_of_lt_of_le hlt hb.size, fun i hi => (hb.cell (p := ⟨b, off + i, none⟩) hlt).trans (hc i hi)⟩
/-- The cursor in block g: over the bytes cv, not further than k. -/
structure CurS (w : World) (g : Nat) (cv : Value) (k : Nat) : Prop where
  at_ : ∃ (n : Nat) (s : Int), n ≤ k ∧ w.heap[g]? = some (.cells #[cv, .int .i64 n, .int .u64 s] 100 (0, 0))
  code : ∀ w', w.grownBy w' (some g) → RdB w' cv
theorem grown_transA {w w' w'' : World} {row : Option Nat} (h : w.grownBy w' row) (k : w'.grownBy w'' row) : w.grownBy w'' row := Gf.grownBy_trans h k
theorem CurS.mono {w : World} {g k k' : Nat} {cv : Value} (h : CurS w g cv k) (hk : k ≤ k') : CurS w g cv k' := by
  obtain ⟨n, s, hn, hh⟩ := h.at_
  exact ⟨⟨n, s, by omega, hh⟩, h.code⟩
theorem CurS.alloc {w : World} {g k : Nat} {cv : Value} (h : CurS w g cv k) (o : Obj) : CurS (w.alloc o) g cv k := by
  obtain ⟨n, s, hn, hh⟩ := h.at_
  have hlt : g < w.heap.size := (Array.getElem?_eq_some_iff.1 hh).1
  exact ⟨⟨n, s, hn, (Below.heap_alloc w o g hlt).trans hh⟩, fun w' hg => h.code w' (grown_transA (World.grownBy_alloc w o _) hg)⟩
end Go.Proofs.YtbgadbokejaomaaGreatDoor

namespace Go.Proofs.YtbgadbokejaomaaGreatDoor
open Go.RowKit

theorem curS_lt {w : World} {g k : Nat} {cv : Value} (h : CurS w g cv k) : g < w.heap.size := by
  obtain ⟨n, s, _, hh⟩ := h.at_
  exact (Array.getElem?_eq_some_iff.1 hh).1

/-- A cursor stays behind a step that touches none but new blocks and one row of ours. -/
theorem CurS.far {w w' : World} {g k : Nat} {cv : Value} {row : Option Nat} (h : CurS w g cv k) (hg : w.grownBy w' row) (hr : ∀ j, row = some j → j ≠ g) (hrb : ∀ w2, w'.grownBy w2 (some g) → RdB w2 cv) : CurS w' g cv k := by
  obtain ⟨n, s, hn, hh⟩ := h.at_
  refine ⟨⟨n, s, hn, ?_⟩, hrb⟩
  rw [hg.block g (curS_lt h) (fun e => hr g e.symm rfl)]
  exact hh


end Go.Proofs.YtbgadbokejaomaaGreatDoor

namespace Go.Proofs.YtbgadbokejaomaaGreatDoor
open Go.RowKit

/-- The first place from j on that holds. -/
def fstAt (p : Nat → Bool) : Nat → Nat → Nat
  | 0, j => j
  | f + 1, j => if p j = true then j else fstAt p f (j + 1)
/-- How many numbers from x on are in the list, one behind the other, round 256. -/
def ahead (xs : List Int) (x : Nat) : Nat := fstAt (fun d => !xs.contains ((((x + d) % 256 : Nat)) : Int)) 300 0
theorem CurS.kept {w w' : World} {g k : Nat} {cv : Value} (h : CurS w g cv k) (hb : Below w.heap.size w w') (hrb : ∀ w2, w'.grownBy w2 (some g) → RdB w2 cv) : CurS w' g cv k := by
  obtain ⟨n, s, hn, hh⟩ := h.at_
  exact ⟨⟨n, s, hn, (hb.block g (Array.getElem?_eq_some_iff.1 hh).1).trans hh⟩, hrb⟩
end Go.Proofs.YtbgadbokejaomaaGreatDoor

namespace Go.Proofs.YtbgadbokejaomaaGreatDoor
open Go.RowKit

end Go.Proofs.YtbgadbokejaomaaGreatDoor

namespace Go.Proofs.YtbgadbokejaomaaGreatDoor
open Go.RowKit

end Go.Proofs.YtbgadbokejaomaaGreatDoor

namespace Go.Proofs.YtbgadbokejaomaaGreatDoor
open Go.RowKit
open Gf (ci nat ciM Sh AllLt invTo solN selM codeN those rowL identN elOk)

end Go.Proofs.YtbgadbokejaomaaGreatDoor

namespace Go.Proofs.YtbgadbokejaomaaGreatDoor
open Go.RowKit
open Gf (ci nat amTo AllLt addRow)

structure UpdF (D Q K l : Nat) (m : List (List Int)) (p : List Int) : Prop where
  d1 : 1 ≤ D
  d2 : D ≤ 6
  q1 : 1 ≤ Q
  q2 : Q ≤ 4
  k1 : K < D
  ml : m.length = D + Q
  ok : piecesOk m = true
  l0 : (m.getD 0 []).length = l
  pl : p.length = l
  pe : p.all Gf.elOk = true
theorem UpdF.row {D Q K l : Nat} {m : List (List Int)} {p : List Int} (h : UpdF D Q K l m p) (i : Nat) (hi : i < m.length) : (m.getD i []).length = l ∧ l ≤ 32 ∧ (m.getD i []).all Gf.elOk = true := by
  have := piecesOk_at h.ok i hi
  rw [h.l0] at this
  exact ⟨this.1, by omega, this.2.2⟩
end Go.Proofs.YtbgadbokejaomaaGreatDoor

namespace Go.Proofs.YtbgadbokejaomaaGreatDoor
open Go.RowKit
open Gf (ci nat amTo AllLt addRow)

end Go.Proofs.YtbgadbokejaomaaGreatDoor

namespace Go.Proofs.YtbgadbokejaomaaGreatDoor
open Go.RowKit

end Go.Proofs.YtbgadbokejaomaaGreatDoor

namespace Go.Proofs.YtbgadbokejaomaaGreatDoor
open Go.RowKit

end Go.Proofs.YtbgadbokejaomaaGreatDoor

namespace Go.Proofs.YtbgadbokejaomaaGreatDoor
open Go.RowKit
open Gf

end Go.Proofs.YtbgadbokejaomaaGreatDoor

/-
  What the law of pieces asks of the mathematics: a piece put anew leaves a code a code, and what was none stays none; a piece that is changed changes every parity piece.
-/
import Derived.Test.YtogopakmebiomaaDoorUpdP
import Derived.Test.YtogopakmebiomaaDoorDist
import Derived.Test.YtogopakmebiomaaDoorEncP
namespace Go.Proofs.YtogopakmebiomaaDoor
open Go.RowKit
open Gf

theorem fac_ok : Gf.allB 6 (fun d => Gf.allB 4 (fun q => Gf.allB (d + 1) (fun K => Gf.allB (d + q + 2) (fun i => if i < d + 1 then facN (d + 1) (q + 1) K i == (if i = K then 1 else 0) else facN (d + 1) (q + 1) K i != 0)))) = true := by decide +kernel
theorem fac_at {D Q K i : Nat} (d1 : 1 ≤ D) (d6 : D ≤ 6) (q1 : 1 ≤ Q) (q4 : Q ≤ 4) (hK : K < D) (hi : i < D + Q) : (if i < D then facN D Q K i == (if i = K then 1 else 0) else facN D Q K i != 0) = true := by
  obtain ⟨a, rfl⟩ : ∃ a, D = a + 1 := ⟨D - 1, by omega⟩
  obtain ⟨b, rfl⟩ : ∃ b, Q = b + 1 := ⟨Q - 1, by omega⟩
  exact Gf.allB_of (Gf.allB_of (Gf.allB_of (Gf.allB_of fac_ok a (by omega)) b (by omega)) K hK) i (by omega)
theorem fac_unit {D Q K i : Nat} (d1 : 1 ≤ D) (d6 : D ≤ 6) (q1 : 1 ≤ Q) (q4 : Q ≤ 4) (hK : K < D) (hi : i < D) : facN D Q K i = if i = K then 1 else 0 := by
  have := fac_at d1 d6 q1 q4 hK (i := i) (by omega)
  rw [if_pos hi] at this
  simpa using this
theorem fac_nz {D Q K i : Nat} (d1 : 1 ≤ D) (d6 : D ≤ 6) (q1 : 1 ≤ Q) (q4 : Q ≤ 4) (hK : K < D) (h1 : D ≤ i) (hi : i < D + Q) : facN D Q K i ≠ 0 := by
  have := fac_at d1 d6 q1 q4 hK hi
  rw [if_neg (by omega)] at this
  simpa using this

theorem addRow_at (s q : List Nat) (f i : Nat) (h : i < s.length) (h2 : i < q.length) : (addRow s q f).getD i 0 = s.getD i 0 ^^^ mul f (q.getD i 0) := by
  simp [addRow, List.getD_eq_getElem?_getD, List.getElem?_zipWith, h, h2]
theorem natci (l : List Nat) : nat (ci l) = l := by
  rw [nat, ci, List.map_map]
  conv => rhs; rw [← List.map_id l]
  rfl
theorem ciall {l : List Nat} (h : AllLt l) : (ci l).all Gf.elOk = true := by
  rw [List.all_eq_true]
  intro x hx
  simp only [ci, List.mem_map] at hx
  obtain ⟨n, hn, rfl⟩ := hx
  obtain ⟨i, hi, rfl⟩ := List.getElem_of_mem hn
  have := h i
  rw [List.getD_eq_getElem?_getD, List.getElem?_eq_getElem hi, Option.getD_some] at this
  simp only [Gf.elOk, decide_eq_true_eq]
  omega
theorem mulRow_at {b : List (List Nat)} {l : Nat} {r : List Nat} {k j : Nat} (hb : (b.getD k []).length = l) (hj : j < l) : (mulRow b l r (k + 1)).getD j 0 = (mulRow b l r k).getD j 0 ^^^ mul (r.getD k 0) ((b.getD k []).getD j 0) := by
  rw [mulRow, Gf.amTo_add _ _ _ (by rw [hb, mulRow_length]), addRow_at _ _ _ _ (by rw [mulRow_length]; exact hj) (by rw [hb]; exact hj)]
/-- One row of the right factor is changed by d at place j: the product by its number times d. -/
theorem mulRow_upd {b c : List (List Nat)} {l K j d : Nat} {r : List Nat} (hj : j < l) : ∀ n, (∀ t, t < n → (b.getD t []).length = l ∧ (c.getD t []).length = l) → (∀ t, t < n → t ≠ K → (c.getD t []).getD j 0 = (b.getD t []).getD j 0) → ((c.getD K []).getD j 0 = (b.getD K []).getD j 0 ^^^ d) →
    (mulRow c l r n).getD j 0 = (mulRow b l r n).getD j 0 ^^^ (if K < n then mul (r.getD K 0) d else 0) := by
  intro n
  induction n with
  | zero => intro _ _ _; simp [mulRow]
  | succ n ih =>
    intro h1 h2 h3
    rw [mulRow_at (h1 n (by omega)).1 hj, mulRow_at (h1 n (by omega)).2 hj, ih (fun t ht => h1 t (by omega)) (fun t ht => h2 t (by omega)) h3]
    by_cases e : n = K
    · subst e
      rw [if_neg (Nat.lt_irrefl _), if_pos (Nat.lt_succ_self _), h3, Gf.mul_xor_b, Nat.xor_zero, Nat.xor_assoc]
    · rw [h2 n (by omega) e]
      by_cases h : K < n
      · rw [if_pos h, if_pos (by omega), Nat.xor_assoc, Nat.xor_assoc, Nat.xor_comm (mul (r.getD K 0) d)]
      · rw [if_neg h, if_neg (by omega), Nat.xor_zero, Nat.xor_zero]
theorem upd_at {D Q K l : Nat} {m : List (List Int)} {p : List Int} (h : UpdF D Q K l m p) (i j : Nat) (hi : i < m.length) (hj : j < l) : (nat ((updM D Q K m p).getD i [])).getD j 0 = (nat (m.getD i [])).getD j 0 ^^^ mul (facN D Q K i) ((difN m K p).getD j 0) := by
  have hd := h.dif
  have hr := h.row i hi
  rw [updM_get _ _ _ _ _ _ hi, updRow, natci, Gf.amTo_add _ _ _ (by rw [hd.1, Gf.nat_length, hr.1]), addRow_at _ _ _ _ (by rw [Gf.nat_length, hr.1]; exact hj) (by rw [hd.1]; exact hj)]
theorem dif_at {D Q K l : Nat} {m : List (List Int)} {p : List Int} (h : UpdF D Q K l m p) (j : Nat) (hj : j < l) : (difN m K p).getD j 0 = (nat p).getD j 0 ^^^ (nat (m.getD K [])).getD j 0 := by
  have hk := h.row K (by have := h.k1; have := h.ml; omega)
  rw [difN, addRow_at _ _ _ _ (by rw [Gf.nat_length, h.pl]; exact hj) (by rw [Gf.nat_length, hk.1]; exact hj), Gf.one_mul _ (Gf.nat_lt hk.2.2 j)]
theorem nat_inj {a b : List Int} (ha : a.all Gf.elOk = true) (hb : b.all Gf.elOk = true) (h : nat a = nat b) : a = b := by
  rw [← Gf.ci_nat ha, ← Gf.ci_nat hb, h]
theorem ext_nat {a b : List Nat} {l : Nat} (ha : a.length = l) (hb : b.length = l) (h : ∀ j, j < l → a.getD j 0 = b.getD j 0) : a = b := by
  apply List.ext_getElem (by omega)
  intro i h1 h2
  have := h i (by omega)
  rwa [List.getD_eq_getElem?_getD, List.getD_eq_getElem?_getD, List.getElem?_eq_getElem h1, List.getElem?_eq_getElem h2, Option.getD_some, Option.getD_some] at this
theorem upd_row {D Q K l : Nat} {m : List (List Int)} {p : List Int} (h : UpdF D Q K l m p) (i : Nat) (hi : i < m.length) : ((updM D Q K m p).getD i []).length = l ∧ ((updM D Q K m p).getD i []).all Gf.elOk = true := by
  have hr := h.row i hi
  rw [updM_get _ _ _ _ _ _ hi, updRow]
  refine ⟨by rw [Gf.ci_length, Gf.amTo_length, Gf.nat_length, hr.1], ?_⟩
  exact ciall (Gf.amTo_lt (Gf.nat_lt hr.2.2) (h.fac i hi).2.1 _)
theorem upd_same {D Q K l : Nat} {m : List (List Int)} {p : List Int} (h : UpdF D Q K l m p) (i : Nat) (hi : i < D) (hK : i ≠ K) : (updM D Q K m p).getD i [] = m.getD i [] := by
  have him : i < m.length := by have := h.ml; omega
  have hr := h.row i him
  have hu := upd_row h i him
  refine nat_inj hu.2 hr.2.2 (ext_nat (l := l) (by rw [Gf.nat_length, hu.1]) (by rw [Gf.nat_length, hr.1]) fun j hj => ?_)
  rw [upd_at h i j him hj, fac_unit h.d1 h.d2 h.q1 h.q2 h.k1 hi, if_neg hK, Gf.zero_mul (h.dif.2 j), Nat.xor_zero]
theorem upd_put {D Q K l : Nat} {m : List (List Int)} {p : List Int} (h : UpdF D Q K l m p) : (updM D Q K m p).getD K [] = p := by
  have him : K < m.length := by have := h.ml; have := h.k1; omega
  have hu := upd_row h K him
  refine nat_inj hu.2 h.pe (ext_nat (l := l) (by rw [Gf.nat_length, hu.1]) (by rw [Gf.nat_length, h.pl]) fun j hj => ?_)
  rw [upd_at h K j him hj, fac_unit h.d1 h.d2 h.q1 h.q2 h.k1 h.k1, if_pos rfl, Gf.one_mul _ (h.dif.2 j), dif_at h j hj, Nat.xor_comm ((nat p).getD j 0), ← Nat.xor_assoc, Nat.xor_self, Nat.zero_xor]
theorem upd_pieces {D Q K l : Nat} {m : List (List Int)} {p : List Int} (h : UpdF D Q K l m p) : piecesOk (updM D Q K m p) = true := by
  refine piecesOk_yes fun i hi => ?_
  rw [updM_length] at hi
  have h0 := upd_row h 0 (by have := h.ml; have := h.d1; omega)
  have hi2 := upd_row h i hi
  have := (h.row i hi).2.1
  simp only [pieceAt, Bool.and_eq_true, decide_eq_true_eq]
  exact ⟨⟨by rw [hi2.1, h0.1], by omega⟩, hi2.2⟩
theorem take_get (m : List (List Int)) (D i : Nat) (h : i < D) : (m.take D).getD i [] = m.getD i [] := by
  simp [List.getD_eq_getElem?_getD, h]
theorem enc_at {D Q : Nat} {m : List (List Int)} {i : Nat} (hD : 1 ≤ D) (hi : i < D + Q) : nat ((encT D Q m).getD i []) = mulRow ((m.take D).map nat) (m.getD 0 []).length (nat ((codeM D Q).getD i [])) D := by
  unfold encT
  rw [mulM_get _ _ _ (by rw [codeM_length]; exact hi), natci, take_get _ _ _ (by omega), (codeM_rows D Q i (by rw [codeM_length]; exact hi)).1]
theorem enc_ok {D Q : Nat} {m : List (List Int)} {i : Nat} (hi : i < D + Q) : ((encT D Q m).getD i []).all Gf.elOk = true := by
  unfold encT
  rw [mulM_get _ _ _ (by rw [codeM_length]; exact hi)]
  exact ciall (mulRow_lt (Gf.nat_lt (codeM_rows D Q i (by rw [codeM_length]; exact hi)).2) _)
theorem enc_upd {D Q K l : Nat} {m : List (List Int)} {p : List Int} (h : UpdF D Q K l m p) (i j : Nat) (hi : i < D + Q) (hj : j < l) : (nat ((encT D Q (updM D Q K m p)).getD i [])).getD j 0 = (nat ((encT D Q m).getD i [])).getD j 0 ^^^ mul (facN D Q K i) ((difN m K p).getD j 0) := by
  have hml := h.ml
  have hk := h.k1
  rw [enc_at h.d1 hi, enc_at h.d1 hi, h.l0, (upd_row h 0 (by have := h.d1; omega)).1]
  have := mulRow_upd (b := (m.take D).map nat) (c := ((updM D Q K m p).take D).map nat) (l := l) (K := K) (j := j) (d := (difN m K p).getD j 0) (r := nat ((codeM D Q).getD i [])) hj D (fun t ht => ?_) (fun t ht hK => ?_) ?_
  · rw [this, if_pos hk]; rfl
  · rw [natM_get, natM_get, take_get _ _ _ ht, take_get _ _ _ ht, Gf.nat_length, Gf.nat_length]
    exact ⟨(h.row t (by omega)).1, (upd_row h t (by omega)).1⟩
  · rw [natM_get, natM_get, take_get _ _ _ ht, take_get _ _ _ ht, upd_same h t ht hK]
  · rw [natM_get, natM_get, take_get _ _ _ hk, take_get _ _ _ hk, upd_at h K j (by omega) hj, fac_unit h.d1 h.d2 h.q1 h.q2 h.k1 h.k1, if_pos rfl, Gf.one_mul _ (h.dif.2 j)]
theorem xor_cancel {a b c : Nat} (h : a ^^^ c = b ^^^ c) : a = b := by
  have := congrArg (· ^^^ c) h
  simpa [Nat.xor_assoc] using this
theorem code_iff {D Q K l : Nat} {m : List (List Int)} {p : List Int} (h : UpdF D Q K l m p) (i : Nat) (hi : i < D + Q) : (updM D Q K m p).getD i [] = (encT D Q (updM D Q K m p)).getD i [] ↔ m.getD i [] = (encT D Q m).getD i [] := by
  have hml := h.ml
  have d1 := h.d1
  have him : i < m.length := by omega
  have e1 := (encT_rows (Q := Q) h.ok h.d1 hml).2 i him
  have e2 := (encT_rows (Q := Q) (upd_pieces h) h.d1 (by rw [updM_length, hml])).2 i (by rw [updM_length]; exact him)
  have hr := h.row i him
  have hu := upd_row h i him
  constructor
  · intro e
    refine nat_inj hr.2.2 (enc_ok hi) (ext_nat (l := l) (by rw [Gf.nat_length, hr.1]) (by rw [Gf.nat_length, ← e1.1, hr.1]) fun j hj => ?_)
    have : (nat ((updM D Q K m p).getD i [])).getD j 0 = (nat ((encT D Q (updM D Q K m p)).getD i [])).getD j 0 := by rw [e]
    rw [upd_at h i j him hj, enc_upd h i j hi hj] at this
    exact xor_cancel this
  · intro e
    refine nat_inj hu.2 (enc_ok hi) (ext_nat (l := l) (by rw [Gf.nat_length, hu.1]) (by rw [Gf.nat_length, ← e2.1, hu.1]) fun j hj => ?_)
    rw [upd_at h i j him hj, enc_upd h i j hi hj, e]
theorem unl_zero (a b : List (List Int)) : ∀ n, unlTo a b n = 0 ↔ ∀ i, i < n → a.getD i [] = b.getD i [] := by
  intro n
  induction n with
  | zero => simp [unlTo]
  | succ n ih =>
    rw [unlTo]
    constructor
    · intro h i hi
      by_cases e : i = n
      · subst e
        by_cases e2 : a.getD i [] = b.getD i []
        · exact e2
        · rw [if_neg e2] at h; omega
      · exact ih.mp (by omega) i (by omega)
    · intro h
      rw [ih.mpr (fun i hi => h i (by omega)), if_pos (h n (by omega))]
theorem unl_more (a b : List (List Int)) (D : Nat) : ∀ q, (∀ i, D ≤ i → i < D + q → a.getD i [] ≠ b.getD i []) → unlTo a b (D + q) = unlTo a b D + q := by
  intro q
  induction q with
  | zero => intro _; rfl
  | succ q ih =>
    intro h
    rw [← Nat.add_assoc, unlTo, ih (fun i h1 h2 => h i h1 (by omega)), if_neg (h (D + q) (by omega) (by omega))]
    omega
theorem unl_some (a b : List (List Int)) {K D : Nat} (hK : K < D) (h : a.getD K [] ≠ b.getD K []) : 1 ≤ unlTo a b D := by
  rcases Nat.eq_zero_or_pos (unlTo a b D) with e | e
  · exact absurd ((unl_zero a b D).mp e K hK) h
  · exact e
/-- A piece that is changed changes every parity piece. -/
theorem upd_far {D Q K l : Nat} {m : List (List Int)} {p : List Int} (h : UpdF D Q K l m p) (hp : p ≠ m.getD K []) : Q + 1 ≤ unlTo m (updM D Q K m p) (D + Q) := by
  have hml := h.ml
  have hk := h.k1
  have hr := h.row K (by omega)
  have h1 := unl_some m (updM D Q K m p) h.k1 (by rw [upd_put h]; exact fun e => hp e.symm)
  obtain ⟨j, hj, hd⟩ : ∃ j, j < l ∧ (difN m K p).getD j 0 ≠ 0 := by
    apply Classical.byContradiction
    intro hn
    apply hp
    refine nat_inj h.pe hr.2.2 (ext_nat (l := l) (by rw [Gf.nat_length, h.pl]) (by rw [Gf.nat_length, hr.1]) fun j hj => ?_)
    have h0 : (difN m K p).getD j 0 = 0 := Classical.byContradiction fun e => hn ⟨j, hj, e⟩
    rw [dif_at h j hj] at h0
    have := congrArg (· ^^^ (nat (m.getD K [])).getD j 0) h0
    simpa [Nat.xor_assoc] using this
  rw [unl_more _ _ D Q (fun i hi1 hi2 e => ?_)]
  · omega
  · have : (nat (m.getD i [])).getD j 0 = (nat ((updM D Q K m p).getD i [])).getD j 0 := by rw [e]
    rw [upd_at h i j (by omega) hj] at this
    have hz : mul (facN D Q K i) ((difN m K p).getD j 0) = 0 := by
      have := congrArg ((nat (m.getD i [])).getD j 0 ^^^ ·) this
      simp only [Nat.xor_self] at this
      rw [← Nat.xor_assoc, Nat.xor_self, Nat.zero_xor] at this
      exact this.symm
    rcases Gf.mul_eq_zero _ _ (h.fac i (by omega)).2.1 (h.dif.2 j) hz with e | e
    · exact fac_nz h.d1 h.d2 h.q1 h.q2 h.k1 hi1 hi2 e
    · exact hd e
/-- What the law asks, as the functions answer. -/
structure PieF (D Q K : Nat) (m u : List (List Int)) (p : List Int) (is : Bool) (dd : Nat) (e : List (List Int)) : Prop where
  one : chkR D Q m = (is, true)
  two : chkR D Q u = (is, true)
  three : distR m u = ((dd : Int), true)
  put : u.getD K [] = p
  far : p ≠ m.getD K [] → Q < dd
  four : encR ((m.take D).set K p) Q = (e, true)
  same : is = true → e = u
theorem pie_facts {D Q K l : Nat} {m : List (List Int)} {p : List Int} (h : UpdF D Q K l m p) : ∃ is dd e, PieF D Q K m (updM D Q K m p) p is dd e := by
  have hml := h.ml
  have d1 := h.d1
  have d2 := h.d2
  have q1 := h.q1
  have q2 := h.q2
  have hk := h.k1
  have hcode : codeOk (D : Int) (Q : Int) = true := by
    simp only [codeOk, Bool.and_eq_true, decide_eq_true_eq]
    omega
  have hum : (updM D Q K m p).length = D + Q := by rw [updM_length, hml]
  have c1 : chkOk (D : Int) (Q : Int) m = true := by
    simp only [chkOk, Bool.and_eq_true, decide_eq_true_eq]
    exact ⟨hcode, by omega, h.ok⟩
  have c2 : chkOk (D : Int) (Q : Int) (updM D Q K m p) = true := by
    simp only [chkOk, Bool.and_eq_true, decide_eq_true_eq]
    exact ⟨hcode, by omega, upd_pieces h⟩
  have hdist : distOk m (updM D Q K m p) = true := by
    simp only [distOk, Bool.and_eq_true, decide_eq_true_eq]
    refine ⟨by omega, by omega, ?_⟩
    rw [pieces_app (by omega), h.ok, upd_pieces h, h.l0, (upd_row h 0 (by omega)).1]
    simp
  have htake : (updM D Q K m p).take D = (m.take D).set K p := by
    apply List.ext_getElem
    · simp; omega
    · intro i h1 h2
      have hi : i < D := by simp at h1; omega
      have e1 : ((updM D Q K m p).take D)[i] = (updM D Q K m p).getD i [] := by
        rw [← take_get _ _ _ hi, List.getD_eq_getElem?_getD, List.getElem?_eq_getElem h1]; rfl
      rw [e1, List.getElem_set]
      by_cases e : K = i
      · subst e; rw [if_pos rfl, upd_put h]
      · rw [if_neg e, upd_same h i hi (fun e' => e e'.symm), ← take_get _ _ _ hi, List.getD_eq_getElem?_getD, List.getElem?_eq_getElem (by simp at h2 ⊢; omega)]; rfl
  have hlen : ((m.take D).set K p).length = D := by simp; omega
  have henc : encOk ((m.take D).set K p) (Q : Int) = true := by
    simp only [encOk, Bool.and_eq_true]
    refine ⟨by rw [hlen]; exact hcode, ?_⟩
    rw [← htake]
    exact pieces_take (upd_pieces h) D (by omega) (by omega)
  have hiff : unlTo m (encT D Q m) (D + Q) = 0 ↔ unlTo (updM D Q K m p) (encT D Q (updM D Q K m p)) (D + Q) = 0 := by
    rw [unl_zero, unl_zero]
    exact ⟨fun hh i hi => (code_iff h i hi).mpr (hh i hi), fun hh i hi => (code_iff h i hi).mp (hh i hi)⟩
  refine ⟨decide (((unlTo m (encT D Q m) (D + Q) : Nat) : Int) = 0), unlTo m (updM D Q K m p) (D + Q), mulM (codeM D Q) ((m.take D).set K p), ?_, ?_, ?_, upd_put h, fun hp => upd_far h hp, ?_, ?_⟩
  · rw [chkR, if_pos c1, Int.toNat_natCast, Int.toNat_natCast, hml]
  · rw [chkR, if_pos c2, Int.toNat_natCast, Int.toNat_natCast, hum]
    congr 1
    rw [Bool.eq_iff_iff]
    simp only [decide_eq_true_eq]
    constructor
    · intro e; have := hiff.mpr (by omega); omega
    · intro e; have := hiff.mp (by omega); omega
  · rw [distR, if_pos hdist, hml]
  · rw [encR, if_pos henc, hlen, Int.toNat_natCast]
  · intro e
    simp only [decide_eq_true_eq] at e
    have hz := (unl_zero _ _ _).mp (hiff.mp (by omega))
    have : mulM (codeM D Q) ((m.take D).set K p) = encT D Q (updM D Q K m p) := by rw [encT, htake]
    rw [this]
    have el := (encT_rows (Q := Q) (upd_pieces h) h.d1 hum).1
    apply List.ext_getElem el
    intro i h1 h2
    have := hz i (by omega)
    rw [List.getD_eq_getElem?_getD, List.getD_eq_getElem?_getD, List.getElem?_eq_getElem h1, List.getElem?_eq_getElem h2, Option.getD_some, Option.getD_some] at this
    exact this.symm
end Go.Proofs.YtogopakmebiomaaDoor

/-
  DistanceOf: the program's function and its model's, at all rows. No condition. What the law of pieces asks of the mathematics: a piece put anew leaves a code a code, and what was none stays none; a piece that is changed changes every parity piece. What the law of erasure asks: a code stands as it was made, comes back whatever lost pieces hold, and is no code where one was spoilt: plain mathematics. No call is walked here.
-/
import Derived.Test.YtdoldboefceliaaGreatDoorReadStripeB22
import Derived.Test.YtdoldboefceliaaGreatDoorReadStripeB31
import Derived.Test.YtdoldboefceliaaGreatDoorReadStripeB20
import Derived.Test.YtdoldboefceliaaGreatDoorReadStripeB27
namespace Go.Proofs.YtdoldboefceliaaGreatDoor
open Go.RowKit

def distOk (a b : List (List Int)) : Bool := decide (a.length = b.length) && (decide (a.length ≤ 10) && piecesOk (a ++ b))
def distR (a b : List (List Int)) : Int × Bool := if distOk a b = true then (((unlTo a b a.length : Nat) : Int), true) else (0, false)
theorem pieces_app {a b : List (List Int)} (hl : a.length = b.length) : piecesOk (a ++ b) = (piecesOk a && (piecesOk b && (decide (a.length = 0) || decide ((a.getD 0 []).length = (b.getD 0 []).length)))) := by
  rw [Bool.eq_iff_iff]
  simp only [Bool.and_eq_true, Bool.or_eq_true, decide_eq_true_eq]
  have g : ∀ i, i < a.length → (a ++ b).getD i [] = a.getD i [] := fun i hi => by rw [getD_app, if_pos hi]
  have g' : ∀ i, (a ++ b).getD (a.length + i) [] = b.getD i [] := fun i => by rw [getD_app, if_neg (by omega), Nat.add_sub_cancel_left]
  have gl : (a ++ b).length = a.length + b.length := by simp
  constructor
  · intro h
    have f := piecesOk_at h
    by_cases h0 : a.length = 0
    · have ea : a = [] := List.eq_nil_of_length_eq_zero h0
      have eb : b = [] := List.eq_nil_of_length_eq_zero (by omega)
      subst ea eb
      exact ⟨rfl, rfl, .inl rfl⟩
    · have f0 := f a.length (by omega)
      have e0 := g' 0
      rw [Nat.add_zero] at e0
      rw [e0, g 0 (by omega)] at f0
      refine ⟨piecesOk_yes fun i hi => ?_, piecesOk_yes fun i hi => ?_, .inr f0.1.symm⟩
      · have := f i (by omega)
        rw [g i hi, g 0 (by omega)] at this
        rw [pieceAt, decide_eq_true ⟨this.1, this.2.1⟩, this.2.2]; rfl
      · have := f (a.length + i) (by omega)
        rw [g' i, g 0 (by omega)] at this
        rw [pieceAt, decide_eq_true ⟨by omega, this.2.1⟩, this.2.2]; rfl
  · rintro ⟨h1, h2, h3⟩
    refine piecesOk_yes fun i hi => ?_
    rw [gl] at hi
    have h0 : 0 < a.length := by omega
    have e0 : (a.getD 0 []).length = (b.getD 0 []).length := by
      rcases h3 with h3 | h3
      · omega
      · exact h3
    by_cases h : i < a.length
    · have := piecesOk_at h1 i h
      rw [pieceAt, g i h, g 0 h0, decide_eq_true ⟨this.1, this.2.1⟩, this.2.2]; rfl
    · have := piecesOk_at h2 (i - a.length) (by omega)
      have e := g' (i - a.length)
      rw [show a.length + (i - a.length) = i from by omega] at e
      rw [pieceAt, e, g 0 h0, decide_eq_true ⟨by omega, this.2.1⟩, this.2.2]; rfl

theorem rdM_join {w w' : World} {us vs : List Value} {a b : List (List Int)} {g : Nat} (hu : us.length = a.length) (hv : vs.length = b.length) (ha : ∀ i, i < a.length → Rd w' (us.getD i nilRow) (a.getD i [])) (hb : ∀ i, i < b.length → Rd w' (vs.getD i nilRow) (b.getD i []))
    (ho : w'.ownsRow w.heap.size 27 1 (.slice (some ⟨g, 0, none⟩) (us.length + vs.length) (us.length + vs.length)) (us.length + vs.length) (us ++ vs)) (hm : us.length + vs.length ≤ 8192) :
    RdM w' (.slice (some ⟨g, 0, none⟩) (us.length + vs.length) (us.length + vs.length)) (a ++ b) := by
  have hl : (a ++ b).length = us.length + vs.length := by simp [hu, hv]
  have hlt : g < w'.heap.size := (World.ownsRow.lt ho g rfl).2
  refine ⟨_, us.length + vs.length, by rw [hl], by rw [hl]; exact Nat.le_refl _, ⟨by unfold maxLen; omega, fun h => by cases h⟩, .inr ⟨g, 0, rfl, hlt, fun i hi => ?_⟩⟩
  rw [hl] at hi
  have hi2 : i < (us ++ vs).length := by simp; exact hi
  refine ⟨(us ++ vs).getD i nilRow, ?_, ?_⟩
  · rw [Nat.zero_add, World.ownsRow.cellAt ho i (by omega), List.getD_eq_getElem?_getD, List.getElem?_eq_getElem hi2]
    rfl
  · rw [getD_app, getD_app, hu]
    split
    · rename_i h; exact ha i h
    · exact hb _ (by omega)

set_option maxRecDepth 100000 in
set_option maxHeartbeats 800000 in
theorem joinLists_none (fv bv : Value) (w : World) (hf : Vals w fv []) (hb : Vals w bv []) :
    Calls Tryz.prog 197 #[fv, bv] w fun e w' => ∃ v', e = .returned v' ∧ RdM w' v' [] ∧ Below w.heap.size w w' := by
  obtain ⟨fa, fcap, rfl, f1, f2, f3⟩ := hf
  obtain ⟨ba, bcap, rfl, b1, b2, b3⟩ := hb
  clear f1 f2 f3 b1 b2 b3
  go_enter Tryz.func197, Tryz.ntmps197
  go_wp2_with (at_make; refine wpList_make_rows rfl _ _ rfl _ _ 0 rfl rfl (by simp) (by simp) (by omega) ?_)
  intro w0 hm0 hg0
  have B0 := hide ((Below.refl w.heap.size w).grown hg0 (Nat.le_refl _) (fun k h => by cases h))
  have M0 := hide hm0.rd
  clear hm0 hg0
  go_wp2_with (refine wpList_copy_nothing rfl _ _ 57 57 rfl 27 Tryz.underlying57 infoRowSize _ _ _ _ _ _ rfl rfl (by simp) ?_)
  go_ret
  exact ⟨_, rfl, M0.out, B0.out⟩

set_option maxRecDepth 100000 in
set_option maxHeartbeats 800000 in
theorem joinLists_rd (av bv : Value) (a b : List (List Int)) (w : World) (ha : RdM w av a) (hb : RdM w bv b) (hl : a.length = b.length) (hn : a.length ≤ 10) :
    Calls Tryz.prog 197 #[av, bv] w fun e w' => ∃ v', e = .returned v' ∧ RdM w' v' (a ++ b) ∧ Below w.heap.size w w' := by
  obtain ⟨us, hu1, hu2, hu3⟩ := ha.vals
  obtain ⟨vs, hv1, hv2, hv3⟩ := hb.vals
  by_cases h0 : a.length = 0
  · have ea : a = [] := List.eq_nil_of_length_eq_zero h0
    have eb : b = [] := List.eq_nil_of_length_eq_zero (by omega)
    subst ea eb
    have eu : us = [] := List.eq_nil_of_length_eq_zero hu2
    have ev : vs = [] := List.eq_nil_of_length_eq_zero hv2
    subst eu ev
    exact joinLists_none av bv w hu1 hv1
  · refine (joinLists_calls av bv us vs w hu1 hv1 (by omega) (by omega) (by omega)).mono ?_
    rintro e w' ⟨rfl, ho, hg⟩
    have hB : Below w.heap.size w w' := (Below.refl _ _).grown hg (Nat.le_refl _) (fun k h => by cases h)
    exact ⟨_, rfl, rdM_join hu2 hv2 (fun i hi => (hu3 i hi).below hB) (fun i hi => (hv3 i hi).below hB) ho (by omega), hB⟩

end Go.Proofs.YtdoldboefceliaaGreatDoor

namespace Go.Proofs.YtdoldboefceliaaGreatDoor
open Go.RowKit
open Gf

theorem fac_ok : Gf.allB 6 (fun d => Gf.allB 4 (fun q => Gf.allB (d + 1) (fun K => Gf.allB (d + q + 2) (fun i => if i < d + 1 then facN (d + 1) (q + 1) K i == (if i = K then 1 else 0) else facN (d + 1) (q + 1) K i != 0)))) = true := by decide +kernel
theorem fac_at {D Q K i : Nat} (d1 : 1 ≤ D) (d6 : D ≤ 6) (q1 : 1 ≤ Q) (q4 : Q ≤ 4) (hK : K < D) (hi : i < D + Q) : (if i < D then facN D Q K i == (if i = K then 1 else 0) else facN D Q K i != 0) = true := by
  obtain ⟨a, rfl⟩ : ∃ a, D = a + 1 := ⟨D - 1, by omega⟩
  obtain ⟨b, rfl⟩ : ∃ b, Q = b + 1 := ⟨Q - 1, by omega⟩
  exact Gf.allB_of (Gf.allB_of (Gf.allB_of (Gf.allB_of fac_ok a (by omega)) b (by omega)) K hK) i (by omega)
theorem fac_unit {D Q K i : Nat} (d1 : 1 ≤ D) (d6 : D ≤ 6) (q1 : 1 ≤ Q) (q4 : Q ≤ 4) (hK : K < D) (hi : i < D) : facN D Q K i = if i = K then 1 else 0 := by
  have := fac_at d1 d6 q1 q4 hK (i := i) (by omega)
  rw [if_pos hi] at this
  simpa using this
theorem fac_nz {D Q K i : Nat} (d1 : 1 ≤ D) (d6 : D ≤ 6) (q1 : 1 ≤ Q) (q4 : Q ≤ 4) (hK : K < D) (h1 : D ≤ i) (hi : i < D + Q) : facN D Q K i ≠ 0 := by
  have := fac_at d1 d6 q1 q4 hK hi
  rw [if_neg (by omega)] at this
  simpa using this

theorem addRow_at (s q : List Nat) (f i : Nat) (h : i < s.length) (h2 : i < q.length) : (addRow s q f).getD i 0 = s.getD i 0 ^^^ mul f (q.getD i 0) := by
  simp [addRow, List.getD_eq_getElem?_getD, List.getElem?_zipWith, h, h2]
theorem natci (l : List Nat) : nat (ci l) = l := by
  rw [nat, ci, List.map_map]
  conv => rhs; rw [← List.map_id l]
  rfl
theorem ciall {l : List Nat} (h : AllLt l) : (ci l).all Gf.elOk = true := by
  rw [List.all_eq_true]
  intro x hx
  simp only [ci, List.mem_map] at hx
  obtain ⟨n, hn, rfl⟩ := hx
  obtain ⟨i, hi, rfl⟩ := List.getElem_of_mem hn
  have := h i
  rw [List.getD_eq_getElem?_getD, List.getElem?_eq_getElem hi, Option.getD_some] at this
  simp only [Gf.elOk, decide_eq_true_eq]
  omega
theorem mulRow_at {b : List (List Nat)} {l : Nat} {r : List Nat} {k j : Nat} (hb : (b.getD k []).length = l) (hj : j < l) : (mulRow b l r (k + 1)).getD j 0 = (mulRow b l r k).getD j 0 ^^^ mul (r.getD k 0) ((b.getD k []).getD j 0) := by
  rw [mulRow, Gf.amTo_add _ _ _ (by rw [hb, mulRow_length]), addRow_at _ _ _ _ (by rw [mulRow_length]; exact hj) (by rw [hb]; exact hj)]
/-- One row of the right factor is changed by d at place j: the product by its number times d. -/
theorem mulRow_upd {b c : List (List Nat)} {l K j d : Nat} {r : List Nat} (hj : j < l) : ∀ n, (∀ t, t < n → (b.getD t []).length = l ∧ (c.getD t []).length = l) → (∀ t, t < n → t ≠ K → (c.getD t []).getD j 0 = (b.getD t []).getD j 0) → ((c.getD K []).getD j 0 = (b.getD K []).getD j 0 ^^^ d) →
    (mulRow c l r n).getD j 0 = (mulRow b l r n).getD j 0 ^^^ (if K < n then mul (r.getD K 0) d else 0) := by
  intro n
  induction n with
  | zero => intro _ _ _; simp [mulRow]
  | succ n ih =>
    intro h1 h2 h3
    rw [mulRow_at (h1 n (by omega)).1 hj, mulRow_at (h1 n (by omega)).2 hj, ih (fun t ht => h1 t (by omega)) (fun t ht => h2 t (by omega)) h3]
    by_cases e : n = K
    · subst e
      rw [if_neg (Nat.lt_irrefl _), if_pos (Nat.lt_succ_self _), h3, Gf.mul_xor_b, Nat.xor_zero, Nat.xor_assoc]
    · rw [h2 n (by omega) e]
      by_cases h : K < n
      · rw [if_pos h, if_pos (by omega), Nat.xor_assoc, Nat.xor_assoc, Nat.xor_comm (mul (r.getD K 0) d)]
      · rw [if_neg h, if_neg (by omega), Nat.xor_zero, Nat.xor_zero]
theorem upd_at {D Q K l : Nat} {m : List (List Int)} {p : List Int} (h : UpdF D Q K l m p) (i j : Nat) (hi : i < m.length) (hj : j < l) : (nat ((updM D Q K m p).getD i [])).getD j 0 = (nat (m.getD i [])).getD j 0 ^^^ mul (facN D Q K i) ((difN m K p).getD j 0) := by
  have hd := h.dif
  have hr := h.row i hi
  rw [updM_get _ _ _ _ _ _ hi, updRow, natci, Gf.amTo_add _ _ _ (by rw [hd.1, Gf.nat_length, hr.1]), addRow_at _ _ _ _ (by rw [Gf.nat_length, hr.1]; exact hj) (by rw [hd.1]; exact hj)]
theorem dif_at {D Q K l : Nat} {m : List (List Int)} {p : List Int} (h : UpdF D Q K l m p) (j : Nat) (hj : j < l) : (difN m K p).getD j 0 = (nat p).getD j 0 ^^^ (nat (m.getD K [])).getD j 0 := by
  have hk := h.row K (by have := h.k1; have := h.ml; omega)
  rw [difN, addRow_at _ _ _ _ (by rw [Gf.nat_length, h.pl]; exact hj) (by rw [Gf.nat_length, hk.1]; exact hj), Gf.one_mul _ (Gf.nat_lt hk.2.2 j)]
theorem nat_inj {a b : List Int} (ha : a.all Gf.elOk = true) (hb : b.all Gf.elOk = true) (h : nat a = nat b) : a = b := by
  rw [← Gf.ci_nat ha, ← Gf.ci_nat hb, h]
theorem ext_nat {a b : List Nat} {l : Nat} (ha : a.length = l) (hb : b.length = l) (h : ∀ j, j < l → a.getD j 0 = b.getD j 0) : a = b := by
  apply List.ext_getElem (by omega)
  intro i h1 h2
  have := h i (by omega)
  rwa [List.getD_eq_getElem?_getD, List.getD_eq_getElem?_getD, List.getElem?_eq_getElem h1, List.getElem?_eq_getElem h2, Option.getD_some, Option.getD_some] at this
theorem upd_row {D Q K l : Nat} {m : List (List Int)} {p : List Int} (h : UpdF D Q K l m p) (i : Nat) (hi : i < m.length) : ((updM D Q K m p).getD i []).length = l ∧ ((updM D Q K m p).getD i []).all Gf.elOk = true := by
  have hr := h.row i hi
  rw [updM_get _ _ _ _ _ _ hi, updRow]
  refine ⟨by rw [Gf.ci_length, Gf.amTo_length, Gf.nat_length, hr.1], ?_⟩
  exact ciall (Gf.amTo_lt (Gf.nat_lt hr.2.2) (h.fac i hi).2.1 _)
theorem upd_same {D Q K l : Nat} {m : List (List Int)} {p : List Int} (h : UpdF D Q K l m p) (i : Nat) (hi : i < D) (hK : i ≠ K) : (updM D Q K m p).getD i [] = m.getD i [] := by
  have him : i < m.length := by have := h.ml; omega
  have hr := h.row i him
  have hu := upd_row h i him
  refine nat_inj hu.2 hr.2.2 (ext_nat (l := l) (by rw [Gf.nat_length, hu.1]) (by rw [Gf.nat_length, hr.1]) fun j hj => ?_)
  rw [upd_at h i j him hj, fac_unit h.d1 h.d2 h.q1 h.q2 h.k1 hi, if_neg hK, Gf.zero_mul (h.dif.2 j), Nat.xor_zero]
theorem upd_put {D Q K l : Nat} {m : List (List Int)} {p : List Int} (h : UpdF D Q K l m p) : (updM D Q K m p).getD K [] = p := by
  have him : K < m.length := by have := h.ml; have := h.k1; omega
  have hu := upd_row h K him
  refine nat_inj hu.2 h.pe (ext_nat (l := l) (by rw [Gf.nat_length, hu.1]) (by rw [Gf.nat_length, h.pl]) fun j hj => ?_)
  rw [upd_at h K j him hj, fac_unit h.d1 h.d2 h.q1 h.q2 h.k1 h.k1, if_pos rfl, Gf.one_mul _ (h.dif.2 j), dif_at h j hj, Nat.xor_comm ((nat p).getD j 0), ← Nat.xor_assoc, Nat.xor_self, Nat.zero_xor]
theorem upd_pieces {D Q K l : Nat} {m : List (List Int)} {p : List Int} (h : UpdF D Q K l m p) : piecesOk (updM D Q K m p) = true := by
  refine piecesOk_yes fun i hi => ?_
  rw [updM_length] at hi
  have h0 := upd_row h 0 (by have := h.ml; have := h.d1; omega)
  have hi2 := upd_row h i hi
  have := (h.row i hi).2.1
  simp only [pieceAt, Bool.and_eq_true, decide_eq_true_eq]
  exact ⟨⟨by rw [hi2.1, h0.1], by omega⟩, hi2.2⟩
theorem take_get (m : List (List Int)) (D i : Nat) (h : i < D) : (m.take D).getD i [] = m.getD i [] := by
  simp [List.getD_eq_getElem?_getD, h]
theorem enc_at {D Q : Nat} {m : List (List Int)} {i : Nat} (hD : 1 ≤ D) (hi : i < D + Q) : nat ((encT D Q m).getD i []) = mulRow ((m.take D).map nat) (m.getD 0 []).length (nat ((codeM D Q).getD i [])) D := by
  unfold encT
  rw [mulM_get _ _ _ (by rw [codeM_length]; exact hi), natci, take_get _ _ _ (by omega), (codeM_rows D Q i (by rw [codeM_length]; exact hi)).1]
theorem enc_ok {D Q : Nat} {m : List (List Int)} {i : Nat} (hi : i < D + Q) : ((encT D Q m).getD i []).all Gf.elOk = true := by
  unfold encT
  rw [mulM_get _ _ _ (by rw [codeM_length]; exact hi)]
  exact ciall (mulRow_lt (Gf.nat_lt (codeM_rows D Q i (by rw [codeM_length]; exact hi)).2) _)
theorem enc_upd {D Q K l : Nat} {m : List (List Int)} {p : List Int} (h : UpdF D Q K l m p) (i j : Nat) (hi : i < D + Q) (hj : j < l) : (nat ((encT D Q (updM D Q K m p)).getD i [])).getD j 0 = (nat ((encT D Q m).getD i [])).getD j 0 ^^^ mul (facN D Q K i) ((difN m K p).getD j 0) := by
  have hml := h.ml
  have hk := h.k1
  rw [enc_at h.d1 hi, enc_at h.d1 hi, h.l0, (upd_row h 0 (by have := h.d1; omega)).1]
  have := mulRow_upd (b := (m.take D).map nat) (c := ((updM D Q K m p).take D).map nat) (l := l) (K := K) (j := j) (d := (difN m K p).getD j 0) (r := nat ((codeM D Q).getD i [])) hj D (fun t ht => ?_) (fun t ht hK => ?_) ?_
  · rw [this, if_pos hk]; rfl
  · rw [natM_get, natM_get, take_get _ _ _ ht, take_get _ _ _ ht, Gf.nat_length, Gf.nat_length]
    exact ⟨(h.row t (by omega)).1, (upd_row h t (by omega)).1⟩
  · rw [natM_get, natM_get, take_get _ _ _ ht, take_get _ _ _ ht, upd_same h t ht hK]
  · rw [natM_get, natM_get, take_get _ _ _ hk, take_get _ _ _ hk, upd_at h K j (by omega) hj, fac_unit h.d1 h.d2 h.q1 h.q2 h.k1 h.k1, if_pos rfl, Gf.one_mul _ (h.dif.2 j)]
theorem xor_cancel {a b c : Nat} (h : a ^^^ c = b ^^^ c) : a = b := by
  have := congrArg (· ^^^ c) h
  simpa [Nat.xor_assoc] using this
theorem code_iff {D Q K l : Nat} {m : List (List Int)} {p : List Int} (h : UpdF D Q K l m p) (i : Nat) (hi : i < D + Q) : (updM D Q K m p).getD i [] = (encT D Q (updM D Q K m p)).getD i [] ↔ m.getD i [] = (encT D Q m).getD i [] := by
  have hml := h.ml
  have d1 := h.d1
  have him : i < m.length := by omega
  have e1 := (encT_rows (Q := Q) h.ok h.d1 hml).2 i him
  have e2 := (encT_rows (Q := Q) (upd_pieces h) h.d1 (by rw [updM_length, hml])).2 i (by rw [updM_length]; exact him)
  have hr := h.row i him
  have hu := upd_row h i him
  constructor
  · intro e
    refine nat_inj hr.2.2 (enc_ok hi) (ext_nat (l := l) (by rw [Gf.nat_length, hr.1]) (by rw [Gf.nat_length, ← e1.1, hr.1]) fun j hj => ?_)
    have : (nat ((updM D Q K m p).getD i [])).getD j 0 = (nat ((encT D Q (updM D Q K m p)).getD i [])).getD j 0 := by rw [e]
    rw [upd_at h i j him hj, enc_upd h i j hi hj] at this
    exact xor_cancel this
  · intro e
    refine nat_inj hu.2 (enc_ok hi) (ext_nat (l := l) (by rw [Gf.nat_length, hu.1]) (by rw [Gf.nat_length, ← e2.1, hu.1]) fun j hj => ?_)
    rw [upd_at h i j him hj, enc_upd h i j hi hj, e]
theorem unl_zero (a b : List (List Int)) : ∀ n, unlTo a b n = 0 ↔ ∀ i, i < n → a.getD i [] = b.getD i [] := by
  intro n
  induction n with
  | zero => simp [unlTo]
  | succ n ih =>
    rw [unlTo]
    constructor
    · intro h i hi
      by_cases e : i = n
      · subst e
        by_cases e2 : a.getD i [] = b.getD i []
        · exact e2
        · rw [if_neg e2] at h; omega
      · exact ih.mp (by omega) i (by omega)
    · intro h
      rw [ih.mpr (fun i hi => h i (by omega)), if_pos (h n (by omega))]
theorem unl_more (a b : List (List Int)) (D : Nat) : ∀ q, (∀ i, D ≤ i → i < D + q → a.getD i [] ≠ b.getD i []) → unlTo a b (D + q) = unlTo a b D + q := by
  intro q
  induction q with
  | zero => intro _; rfl
  | succ q ih =>
    intro h
    rw [← Nat.add_assoc, unlTo, ih (fun i h1 h2 => h i h1 (by omega)), if_neg (h (D + q) (by omega) (by omega))]
    omega
theorem unl_some (a b : List (List Int)) {K D : Nat} (hK : K < D) (h : a.getD K [] ≠ b.getD K []) : 1 ≤ unlTo a b D := by
  rcases Nat.eq_zero_or_pos (unlTo a b D) with e | e
  · exact absurd ((unl_zero a b D).mp e K hK) h
  · exact e
/-- A piece that is changed changes every parity piece. -/
theorem upd_far {D Q K l : Nat} {m : List (List Int)} {p : List Int} (h : UpdF D Q K l m p) (hp : p ≠ m.getD K []) : Q + 1 ≤ unlTo m (updM D Q K m p) (D + Q) := by
  have hml := h.ml
  have hk := h.k1
  have hr := h.row K (by omega)
  have h1 := unl_some m (updM D Q K m p) h.k1 (by rw [upd_put h]; exact fun e => hp e.symm)
  obtain ⟨j, hj, hd⟩ : ∃ j, j < l ∧ (difN m K p).getD j 0 ≠ 0 := by
    apply Classical.byContradiction
    intro hn
    apply hp
    refine nat_inj h.pe hr.2.2 (ext_nat (l := l) (by rw [Gf.nat_length, h.pl]) (by rw [Gf.nat_length, hr.1]) fun j hj => ?_)
    have h0 : (difN m K p).getD j 0 = 0 := Classical.byContradiction fun e => hn ⟨j, hj, e⟩
    rw [dif_at h j hj] at h0
    have := congrArg (· ^^^ (nat (m.getD K [])).getD j 0) h0
    simpa [Nat.xor_assoc] using this
  rw [unl_more _ _ D Q (fun i hi1 hi2 e => ?_)]
  · omega
  · have : (nat (m.getD i [])).getD j 0 = (nat ((updM D Q K m p).getD i [])).getD j 0 := by rw [e]
    rw [upd_at h i j (by omega) hj] at this
    have hz : mul (facN D Q K i) ((difN m K p).getD j 0) = 0 := by
      have := congrArg ((nat (m.getD i [])).getD j 0 ^^^ ·) this
      simp only [Nat.xor_self] at this
      rw [← Nat.xor_assoc, Nat.xor_self, Nat.zero_xor] at this
      exact this.symm
    rcases Gf.mul_eq_zero _ _ (h.fac i (by omega)).2.1 (h.dif.2 j) hz with e | e
    · exact fac_nz h.d1 h.d2 h.q1 h.q2 h.k1 hi1 hi2 e
    · exact hd e
/-- What the law asks, as the functions answer. -/
structure PieF (D Q K : Nat) (m u : List (List Int)) (p : List Int) (is : Bool) (dd : Nat) (e : List (List Int)) : Prop where
  one : chkR D Q m = (is, true)
  two : chkR D Q u = (is, true)
  three : distR m u = ((dd : Int), true)
  put : u.getD K [] = p
  far : p ≠ m.getD K [] → Q < dd
  four : encR ((m.take D).set K p) Q = (e, true)
  same : is = true → e = u
theorem pie_facts {D Q K l : Nat} {m : List (List Int)} {p : List Int} (h : UpdF D Q K l m p) : ∃ is dd e, PieF D Q K m (updM D Q K m p) p is dd e := by
  have hml := h.ml
  have d1 := h.d1
  have d2 := h.d2
  have q1 := h.q1
  have q2 := h.q2
  have hk := h.k1
  have hcode : codeOk (D : Int) (Q : Int) = true := by
    simp only [codeOk, Bool.and_eq_true, decide_eq_true_eq]
    omega
  have hum : (updM D Q K m p).length = D + Q := by rw [updM_length, hml]
  have c1 : chkOk (D : Int) (Q : Int) m = true := by
    simp only [chkOk, Bool.and_eq_true, decide_eq_true_eq]
    exact ⟨hcode, by omega, h.ok⟩
  have c2 : chkOk (D : Int) (Q : Int) (updM D Q K m p) = true := by
    simp only [chkOk, Bool.and_eq_true, decide_eq_true_eq]
    exact ⟨hcode, by omega, upd_pieces h⟩
  have hdist : distOk m (updM D Q K m p) = true := by
    simp only [distOk, Bool.and_eq_true, decide_eq_true_eq]
    refine ⟨by omega, by omega, ?_⟩
    rw [pieces_app (by omega), h.ok, upd_pieces h, h.l0, (upd_row h 0 (by omega)).1]
    simp
  have htake : (updM D Q K m p).take D = (m.take D).set K p := by
    apply List.ext_getElem
    · simp; omega
    · intro i h1 h2
      have hi : i < D := by simp at h1; omega
      have e1 : ((updM D Q K m p).take D)[i] = (updM D Q K m p).getD i [] := by
        rw [← take_get _ _ _ hi, List.getD_eq_getElem?_getD, List.getElem?_eq_getElem h1]; rfl
      rw [e1, List.getElem_set]
      by_cases e : K = i
      · subst e; rw [if_pos rfl, upd_put h]
      · rw [if_neg e, upd_same h i hi (fun e' => e e'.symm), ← take_get _ _ _ hi, List.getD_eq_getElem?_getD, List.getElem?_eq_getElem (by simp at h2 ⊢; omega)]; rfl
  have hlen : ((m.take D).set K p).length = D := by simp; omega
  have henc : encOk ((m.take D).set K p) (Q : Int) = true := by
    simp only [encOk, Bool.and_eq_true]
    refine ⟨by rw [hlen]; exact hcode, ?_⟩
    rw [← htake]
    exact pieces_take (upd_pieces h) D (by omega) (by omega)
  have hiff : unlTo m (encT D Q m) (D + Q) = 0 ↔ unlTo (updM D Q K m p) (encT D Q (updM D Q K m p)) (D + Q) = 0 := by
    rw [unl_zero, unl_zero]
    exact ⟨fun hh i hi => (code_iff h i hi).mpr (hh i hi), fun hh i hi => (code_iff h i hi).mp (hh i hi)⟩
  refine ⟨decide (((unlTo m (encT D Q m) (D + Q) : Nat) : Int) = 0), unlTo m (updM D Q K m p) (D + Q), mulM (codeM D Q) ((m.take D).set K p), ?_, ?_, ?_, upd_put h, fun hp => upd_far h hp, ?_, ?_⟩
  · rw [chkR, if_pos c1, Int.toNat_natCast, Int.toNat_natCast, hml]
  · rw [chkR, if_pos c2, Int.toNat_natCast, Int.toNat_natCast, hum]
    congr 1
    rw [Bool.eq_iff_iff]
    simp only [decide_eq_true_eq]
    constructor
    · intro e; have := hiff.mpr (by omega); omega
    · intro e; have := hiff.mp (by omega); omega
  · rw [distR, if_pos hdist, hml]
  · rw [encR, if_pos henc, hlen, Int.toNat_natCast]
  · intro e
    simp only [decide_eq_true_eq] at e
    have hz := (unl_zero _ _ _).mp (hiff.mp (by omega))
    have : mulM (codeM D Q) ((m.take D).set K p) = encT D Q (updM D Q K m p) := by rw [encT, htake]
    rw [this]
    have el := (encT_rows (Q := Q) (upd_pieces h) h.d1 hum).1
    apply List.ext_getElem el
    intro i h1 h2
    have := hz i (by omega)
    rw [List.getD_eq_getElem?_getD, List.getD_eq_getElem?_getD, List.getElem?_eq_getElem h1, List.getElem?_eq_getElem h2, Option.getD_some, Option.getD_some] at this
    exact this.symm
end Go.Proofs.YtdoldboefceliaaGreatDoor

namespace Go.Proofs.YtdoldboefceliaaGreatDoor
open Go.RowKit
open Gf (ci nat ciM Sh AllLt invTo solN selM codeN those rowL identN elOk)

/-- A good code's data. -/
structure EncF (D Q l : Nat) (m : List (List Int)) : Prop where
  d1 : 1 ≤ D
  d6 : D ≤ 6
  q1 : 1 ≤ Q
  q4 : Q ≤ 4
  ml : m.length = D
  l0 : (m.getD 0 []).length = l
  l32 : l ≤ 32
  ok : piecesOk m = true
theorem enc_open {m : List (List Int)} {q : Nat} (h : (encR m q).2 = true) : EncF m.length q (m.getD 0 []).length m ∧ encR m q = (mulM (codeM m.length q) m, true) := by
  have hok : encOk m (q : Int) = true := by
    cases e : encOk m (q : Int) with
    | true => rfl
    | false => simp [encR, e] at h
  have hok2 := hok
  simp only [encOk, Bool.and_eq_true] at hok
  obtain ⟨h1, h2, h3, h4⟩ := codeOk_facts hok.1
  exact ⟨⟨by omega, by omega, by omega, by omega, rfl, rfl, (piecesOk_at hok.2 0 (by omega)).2.1, hok.2⟩, by unfold encR; rw [if_pos hok2, Int.toNat_natCast]⟩
theorem EncF.shM {D Q l : Nat} {m : List (List Int)} (h : EncF D Q l m) : Sh (m.map nat) D l := by
  have := sh_pieces h.ok
  rw [h.ml, h.l0] at this
  exact this
theorem EncF.eq {D Q l : Nat} {m : List (List Int)} (h : EncF D Q l m) : mulM (codeM D Q) m = ciM ((codeN D Q).map (rowL (m.map nat) l D)) := by
  rw [← mul_row (Gf.sh_code D Q) h.shM (by have := h.d1; omega), code_ciM, ciM_natM fun i hi => (piecesOk_at h.ok i hi).2.2]
theorem EncF.shE {D Q l : Nat} {m : List (List Int)} (h : EncF D Q l m) : Sh ((codeN D Q).map (rowL (m.map nat) l D)) (D + Q) l := sh_mul (Gf.sh_code D Q) h.shM
theorem EncF.len {D Q l : Nat} {m : List (List Int)} (h : EncF D Q l m) : (mulM (codeM D Q) m).length = D + Q := by rw [h.eq, Gf.ciM_length, h.shE.len]
theorem EncF.pieces {D Q l : Nat} {m : List (List Int)} (h : EncF D Q l m) : piecesOk (mulM (codeM D Q) m) = true := by rw [h.eq]; exact pieces_sh h.shE h.l32
theorem EncF.row {D Q l : Nat} {m : List (List Int)} (h : EncF D Q l m) (k : Nat) (hk : k < D + Q) : ((mulM (codeM D Q) m).getD k []).length = l ∧ ((mulM (codeM D Q) m).getD k []).all elOk = true := by
  rw [h.eq, Gf.ciM_get, Gf.ci_length, h.shE.row k hk]
  exact ⟨rfl, elOk_lt (h.shE.lt k hk)⟩
theorem EncF.front {D Q l : Nat} {m : List (List Int)} (h : EncF D Q l m) : (mulM (codeM D Q) m).take D = m := by
  apply Gf.ext_getD []
  · rw [List.length_take, h.len, h.ml]; omega
  · intro k hk
    rw [List.length_take, h.len] at hk
    have hkD : k < D := by omega
    rw [take_get _ _ _ hkD, h.eq, Gf.ciM_get, Gf.map_get _ _ _ _ (by rw [(Gf.sh_code D Q).len]; omega), Gf.code_low hkD]
    have e := Gf.ident_row h.shM
    have e2 : ((identN D).map (rowL (m.map nat) l D)).getD k [] = (m.map nat).getD k [] := by rw [e]
    rw [Gf.map_get _ _ _ _ (by rw [(Gf.sh_ident D).len]; exact hkD), Gf.identN_get D k hkD, natM_get] at e2
    rw [e2, ci_nat (piecesOk_at h.ok k (by rw [h.ml]; exact hkD)).2.2]
theorem EncF.code {D Q l : Nat} {m : List (List Int)} (h : EncF D Q l m) : codeOk (D : Int) (Q : Int) = true := by
  have := h.d1; have := h.d6; have := h.q1; have := h.q4
  exact codeOk_yes (by omega)
theorem EncF.chk {D Q l : Nat} {m : List (List Int)} (h : EncF D Q l m) : chkR D Q (mulM (codeM D Q) m) = (true, true) := by
  have c1 : chkOk (D : Int) (Q : Int) (mulM (codeM D Q) m) = true := by
    simp only [chkOk, Bool.and_eq_true, decide_eq_true_eq]
    exact ⟨h.code, by rw [h.len]; omega, h.pieces⟩
  have e : encT D Q (mulM (codeM D Q) m) = mulM (codeM D Q) m := by unfold encT; rw [h.front]
  rw [chkR, if_pos c1, Int.toNat_natCast, Int.toNat_natCast, e, (unl_zero _ _ _).2 fun i _ => rfl]
  rfl

/-- A piece that is lost holds something else. -/
def spoil (ys : List Int) (k : Nat) (r : List Int) : List Int := if ys.contains (k : Int) then r.map (fun x => (x + 1 + (k : Int)) % 256) else r
def spM (E : List (List Int)) (ys : List Int) : List (List Int) := (List.range E.length).map fun k => spoil ys k (E.getD k [])
theorem spM_length (E : List (List Int)) (ys : List Int) : (spM E ys).length = E.length := by simp [spM]
theorem spM_get (E : List (List Int)) (ys : List Int) (k : Nat) (h : k < E.length) : (spM E ys).getD k [] = spoil ys k (E.getD k []) := by simp [spM, h]
theorem spoil_length (ys : List Int) (k : Nat) (r : List Int) : (spoil ys k r).length = r.length := by
  unfold spoil
  split
  · rw [List.length_map]
  · rfl
theorem spoil_el {ys : List Int} {k : Nat} {r : List Int} (h : r.all elOk = true) : (spoil ys k r).all elOk = true := by
  unfold spoil
  split
  · rw [List.all_eq_true]
    intro x hx
    obtain ⟨y, _, rfl⟩ := List.mem_map.1 hx
    exact Gf.elOk_iff.2 (by omega)
  · exact h
/-- What the second half of the law rests on: a code, and what was lost of it. -/
structure SpF (D Q l : Nat) (m : List (List Int)) (ys : List Int) : Prop where
  enc : EncF D Q l m
  ris : risesM ys ((D + Q : Nat) : Int) = true
  yl : ys.length ≤ Q
theorem SpF.row {D Q l : Nat} {m : List (List Int)} {ys : List Int} (h : SpF D Q l m ys) (k : Nat) (hk : k < D + Q) : ((spM (mulM (codeM D Q) m) ys).getD k []).length = l ∧ ((spM (mulM (codeM D Q) m) ys).getD k []).all elOk = true := by
  rw [spM_get _ _ _ (by rw [h.enc.len]; exact hk), spoil_length]
  exact ⟨(h.enc.row k hk).1, spoil_el (h.enc.row k hk).2⟩
theorem SpF.pieces {D Q l : Nat} {m : List (List Int)} {ys : List Int} (h : SpF D Q l m ys) : piecesOk (spM (mulM (codeM D Q) m) ys) = true := by
  refine piecesOk_yes fun i hi => ?_
  rw [spM_length, h.enc.len] at hi
  obtain ⟨r1, r2⟩ := h.row i hi
  obtain ⟨r3, _⟩ := h.row 0 (by omega)
  unfold pieceAt
  rw [r1, r2, r3, decide_eq_true ⟨rfl, h.enc.l32⟩]
  rfl
theorem SpF.all {D Q l : Nat} {m : List (List Int)} {ys : List Int} (h : SpF D Q l m ys) : (spM (mulM (codeM D Q) m) ys).all (fun r : List Int => r.all elOk) = true := by
  have := h.pieces
  unfold piecesOk at this
  rw [Bool.and_eq_true] at this
  exact this.2
theorem SpF.dec {D Q l : Nat} {m : List (List Int)} {ys : List Int} (h : SpF D Q l m ys) : DecF D Q l (spM (mulM (codeM D Q) m) ys) ys :=
  ⟨h.enc.d1, h.enc.d6, h.enc.q1, h.enc.q4, h.ris, h.yl, by rw [spM_length, h.enc.len], (h.row 0 (by have := h.enc.d1; omega)).1, h.enc.l32, h.pieces⟩
theorem SpF.kept {D Q l : Nat} {m : List (List Int)} {ys : List Int} (h : SpF D Q l m ys) (k : Nat) (hk : k < D + Q) (hy : (k : Int) ∉ ys) : (spM (mulM (codeM D Q) m) ys).getD k [] = (mulM (codeM D Q) m).getD k [] := by
  rw [spM_get _ _ _ (by rw [h.enc.len]; exact hk)]
  unfold spoil
  rw [List.contains_eq_mem, decide_eq_false hy]
  rfl
theorem SpF.back {D Q l : Nat} {m : List (List Int)} {ys : List Int} (h : SpF D Q l m ys) : decR D Q (spM (mulM (codeM D Q) m) ys) ys = (mulM (codeM D Q) m, true) := by
  have hc : canOk (D : Int) (Q : Int) ys = true := by
    unfold canOk
    rw [h.enc.code, Bool.true_and]
    have := h.ris
    rw [Int.natCast_add] at this
    exact this
  have hok : decOk (D : Int) (Q : Int) (spM (mulM (codeM D Q) m) ys) ys = true := by
    unfold decOk canR
    rw [if_pos hc, h.pieces, decide_eq_true (by have := h.yl; omega), decide_eq_true (by rw [spM_length, h.enc.len]; omega)]
    rfl
  unfold decR
  rw [if_pos hok, Int.toNat_natCast, Int.toNat_natCast, dec_code h.dec h.enc.ok h.enc.ml h.enc.l0 h.kept]
theorem SpF.chk {D Q l : Nat} {m : List (List Int)} {ys : List Int} (h : SpF D Q l m ys) (hl : 0 < l) (hy : 0 < ys.length) : chkR D Q (spM (mulM (codeM D Q) m) ys) = (false, true) := by
  have c1 : chkOk (D : Int) (Q : Int) (spM (mulM (codeM D Q) m) ys) = true := by
    simp only [chkOk, Bool.and_eq_true, decide_eq_true_eq]
    exact ⟨h.enc.code, by rw [spM_length, h.enc.len]; omega, h.pieces⟩
  rw [chkR, if_pos c1, Int.toNat_natCast, Int.toNat_natCast, spM_length, h.enc.len]
  congr 1
  refine decide_eq_false fun e => ?_
  have hz := (unl_zero _ _ _).1 (show unlTo (spM (mulM (codeM D Q) m) ys) (encT D Q (spM (mulM (codeM D Q) m) ys)) (D + Q) = 0 by omega)
  have d1 := h.enc.d1
  have hD : D ≤ (spM (mulM (codeM D Q) m) ys).length := by rw [spM_length, h.enc.len]; omega
  have t1 : piecesOk ((spM (mulM (codeM D Q) m) ys).take D) = true := pieces_take h.pieces D (by omega) hD
  have t2 : ((spM (mulM (codeM D Q) m) ys).take D).length = D := by rw [List.length_take]; omega
  have t3 : (((spM (mulM (codeM D Q) m) ys).take D).getD 0 []).length = l := by rw [take_get _ _ _ (by omega)]; exact (h.row 0 (by omega)).1
  have b1 := dec_back h.dec t1 t2 t3 (fun k hk _ => hz k hk)
  have b2 := dec_back h.dec h.enc.ok h.enc.ml h.enc.l0 h.kept
  have e1 : (spM (mulM (codeM D Q) m) ys).take D = m := by
    have := congrArg ciM (b1.symm.trans b2)
    rw [ciM_natM fun i hi => (piecesOk_at t1 i hi).2.2, ciM_natM fun i hi => (piecesOk_at h.enc.ok i hi).2.2] at this
    exact this
  obtain ⟨x, hx⟩ : ∃ x, x = ys.getD 0 0 := ⟨_, rfl⟩
  have hr := risesM_at h.ris 0 hy
  simp only [risAtM, decide_eq_true_eq] at hr
  rw [← hx] at hr
  obtain ⟨k, rfl⟩ := Int.eq_ofNat_of_zero_le hr.1
  have hk : k < D + Q := by omega
  have q4 := h.enc.q4
  have d6 := h.enc.d6
  have hs := hz k hk
  unfold encT at hs
  rw [e1, spM_get _ _ _ (by rw [h.enc.len]; exact hk)] at hs
  have hm : ys.contains ((k : Nat) : Int) = true := contains_at hy hx.symm
  unfold spoil at hs
  rw [if_pos hm] at hs
  have hrl := (h.enc.row k hk).1
  generalize (mulM (codeM D Q) m).getD k [] = r at hs hrl
  cases r with
  | nil => simp at hrl; omega
  | cons y r =>
    rw [List.map_cons, List.cons.injEq] at hs
    have := hs.1
    omega
theorem rises_snoc {ys : List Int} {k : Nat} (h : risesM ys (k : Int) = true) : risesM (ys ++ [(k : Int)]) ((k + 1 : Nat) : Int) = true := by
  refine risesM_yes fun i hi => ?_
  rw [List.length_append, List.length_singleton] at hi
  simp only [risAtM, decide_eq_true_eq]
  by_cases e : i < ys.length
  · have := risesM_at h i e
    simp only [risAtM, decide_eq_true_eq] at this
    rw [getD_app, if_pos e]
    refine ⟨this.1, by omega, ?_⟩
    rcases this.2.2 with h0 | h0
    · exact .inl h0
    · right
      rw [getD_app, if_pos (by omega)]
      exact h0
  · have e2 : i = ys.length := by omega
    subst e2
    rw [getD_app, if_neg (by omega), Nat.sub_self]
    refine ⟨by simp, by simp; omega, ?_⟩
    by_cases h0 : ys.length = 0
    · exact .inl h0
    · right
      have := risesM_at h (ys.length - 1) (by omega)
      simp only [risAtM, decide_eq_true_eq] at this
      rw [getD_app, if_pos (by omega)]
      show _ < ((k : Nat) : Int)
      omega
theorem rises_next {ys : List Int} {k : Nat} (h : risesM ys (k : Int) = true) : risesM ys ((k + 1 : Nat) : Int) = true := by
  refine risesM_yes fun i hi => ?_
  have := risesM_at h i hi
  simp only [risAtM, decide_eq_true_eq] at this ⊢
  exact ⟨this.1, by omega, this.2.2⟩
end Go.Proofs.YtdoldboefceliaaGreatDoor

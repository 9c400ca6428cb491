/-
  A journal's states: their bytes, what is read from such, what a disk's sectors tell. Mathematics; no call is walked here.
-/
import Derived.Test.YtpgmocogffolaaaRfa
import Derived.Test.YtpgmocogffolaaaDsw
namespace Go.Proofs.Ytpgmocogffolaaa
open Go.RowKit
set_option linter.unusedVariables false

/-- A state. -/
def jsP (vs : List Int) : Prop := (∀ i, i < vs.length → 0 ≤ vs.getD i 0 ∧ vs.getD i 0 ≤ 65535) ∧ vs.length = 6
/-- Two bytes a value, the higher one first. -/
def jsB : List Int → List Nat
  | [] => []
  | v :: vs => v.toNat / 256 :: v.toNat % 256 :: jsB vs
theorem jsB_len : ∀ vs : List Int, (jsB vs).length = 2 * vs.length
  | [] => rfl
  | v :: vs => by simp only [jsB, List.length_cons, jsB_len vs]; omega
theorem jsB_small : ∀ vs : List Int, (∀ i, i < vs.length → 0 ≤ vs.getD i 0 ∧ vs.getD i 0 ≤ 65535) → ∀ b ∈ jsB vs, b < 256
  | [], _ => fun b hb => by simp [jsB] at hb
  | v :: vs, h => fun b hb => by
    have h0 := h 0 (by simp)
    simp only [List.getD_cons_zero] at h0
    simp only [jsB, List.mem_cons] at hb
    rcases hb with rfl | rfl | hb
    · omega
    · omega
    · exact jsB_small vs (fun i hi => by have := h (i + 1) (by simpa using hi); simpa using this) b hb
theorem jsB_app : ∀ vs us : List Int, jsB (vs ++ us) = jsB vs ++ jsB us
  | [], us => rfl
  | v :: vs, us => by simp only [jsB, List.cons_append, jsB_app vs us]
/-- The bytes of the values so far, and noughts. -/
def rowJ (vs : List Int) (n k : Nat) : List Nat := jsB (vs.take k) ++ List.replicate (2 * (n - k)) 0
theorem rowJ_len (vs : List Int) (n k : Nat) (h : vs.length = n) (hk : k ≤ n) : (rowJ vs n k).length = 2 * n := by
  unfold rowJ
  rw [List.length_append, jsB_len, List.length_take, List.length_replicate]
  omega
theorem rowJ_zero (vs : List Int) (n : Nat) : rowJ vs n 0 = List.replicate (2 * n) 0 := by simp [rowJ, jsB]
theorem rowJ_end (vs : List Int) (n : Nat) (h : vs.length = n) : rowJ vs n n = jsB vs := by
  unfold rowJ
  rw [List.take_of_length_le (by omega)]
  simp
theorem rowJ_set (vs : List Int) (n k : Nat) (h : vs.length = n) (hk : k < n) : ((rowJ vs n k).set (2 * k) ((vs.getD k 0).toNat / 256)).set (2 * k + 1) ((vs.getD k 0).toNat % 256) = rowJ vs n (k + 1) := by
  have e : vs.take (k + 1) = vs.take k ++ [vs.getD k 0] := by
    rw [List.take_succ_eq_append_getElem (by omega), List.getD_eq_getElem?_getD, List.getElem?_eq_getElem (by omega)]
    rfl
  have hl : (jsB (vs.take k)).length = 2 * k := by rw [jsB_len, List.length_take]; omega
  have e2 : 2 * (n - k) = 2 * (n - (k + 1)) + 1 + 1 := by omega
  unfold rowJ
  rw [e, jsB_app, e2, List.replicate_succ, List.replicate_succ]
  rw [List.set_append_right _ _ (by omega), hl, Nat.sub_self, List.set_cons_zero]
  rw [List.set_append_right _ _ (by omega), hl, Nat.add_sub_cancel_left, List.set_cons_succ, List.set_cons_zero, List.append_assoc]
  rfl
/-- The texts of a state. -/
def jsT (vs : List Int) : List ByteArray := [ofN ((jsB vs).take 6), ofN ((jsB vs).drop 6)]
theorem jsT_size (vs : List Int) (h : vs.length = 6) : ∀ s ∈ jsT vs, s.size = 6 := by
  intro s hs
  simp only [jsT, List.mem_cons, List.not_mem_nil, or_false] at hs
  rcases hs with rfl | rfl
  · rw [ofN_size, List.length_take, jsB_len]; omega
  · rw [ofN_size, List.length_drop, jsB_len]; omega
/-- Texts of which StateFrom tells a state. -/
def jfP (l : List ByteArray) : Prop := l.length = 2 ∧ (∀ i, i < l.length → (l.getD i ⟨#[]⟩).size = 6)
/-- What StateFrom tells of bytes. -/
def jvN (l : List Nat) (k : Nat) : Int := ((l.getD (2 * k) 0 * 256 + l.getD (2 * k + 1) 0 : Nat) : Int)
def jvB (l : List Nat) (n : Nat) : List Int := (List.range n).map (jvN l)
theorem jvB_len (l : List Nat) (n : Nat) : (jvB l n).length = n := by simp [jvB]
theorem jvB_getD (l : List Nat) (n i : Nat) (h : i < n) : (jvB l n).getD i 0 = jvN l i := by
  unfold jvB
  rw [List.getD_eq_getElem?_getD, List.getElem?_map, List.getElem?_range h]
  rfl
theorem jvB_succ (l : List Nat) (k : Nat) : jvB l (k + 1) = jvB l k ++ [jvN l k] := by simp [jvB, List.range_succ]
/-- The row of values so far, and noughts. -/
def rowV15 (l : List Nat) (n k : Nat) : List Int := jvB l k ++ List.replicate (n - k) 0
theorem rowV15_len (l : List Nat) (n k : Nat) (h : k ≤ n) : (rowV15 l n k).length = n := by simp [rowV15, jvB]; omega
theorem rowV15_zero (l : List Nat) (n : Nat) : rowV15 l n 0 = List.replicate n 0 := by simp [rowV15, jvB]
theorem rowV15_end (l : List Nat) (n : Nat) : rowV15 l n n = jvB l n := by simp [rowV15]
theorem rowV15_set (l : List Nat) (n k : Nat) (h : k < n) : (rowV15 l n k).set k (jvN l k) = rowV15 l n (k + 1) := by
  unfold rowV15
  rw [List.set_append_right _ _ (by rw [jvB_len]; exact Nat.le_refl _), jvB_len, Nat.sub_self]
  obtain ⟨m, hm⟩ : ∃ m, n - k = m + 1 := ⟨n - k - 1, by omega⟩
  have hm2 : n - (k + 1) = m := by omega
  rw [hm, hm2, List.replicate_succ, List.set_cons_zero, jvB_succ, List.append_assoc]
  rfl
def jsV (l : List ByteArray) : List Int := jvB (bs (l.getD 0 ⟨#[]⟩) ++ bs (l.getD 1 ⟨#[]⟩)) 6
theorem jsV_len (l : List ByteArray) : (jsV l).length = 6 := jvB_len _ _
theorem jvN_ok (l : List Nat) (h : ∀ b ∈ l, b < 256) (k : Nat) : 0 ≤ jvN l k ∧ jvN l k ≤ 65535 := by
  have g : ∀ i, l.getD i 0 < 256 := fun i => by
    rw [List.getD_eq_getElem?_getD]
    by_cases hi : i < l.length
    · rw [List.getElem?_eq_getElem hi]; exact h _ (List.getElem_mem _)
    · rw [List.getElem?_eq_none (by omega)]; simp
  have h1 := g (2 * k)
  have h2 := g (2 * k + 1)
  unfold jvN
  omega
theorem jsV_ok (l : List ByteArray) : jsP (jsV l) := by
  refine ⟨fun i hi => ?_, jsV_len l⟩
  unfold jsV
  rw [jvB_getD _ _ _ (by rw [jsV_len] at hi; exact hi)]
  refine jvN_ok _ (fun b hb => ?_) i
  rw [List.mem_append] at hb
  rcases hb with hb | hb
  · exact bs_lt _ b hb
  · exact bs_lt _ b hb
theorem jvB_jsB (l : List Nat) : ∀ vs : List Int, (∀ i, i < vs.length → 0 ≤ vs.getD i 0 ∧ vs.getD i 0 ≤ 65535) → l = jsB vs → jvB l vs.length = vs := by
  intro vs h e
  subst e
  apply List.ext_getElem?
  intro i
  by_cases hi : i < vs.length
  · have h1 : (jvB (jsB vs) vs.length)[i]? = some (jvN (jsB vs) i) := by
      unfold jvB
      rw [List.getElem?_map, List.getElem?_range hi]
      rfl
    rw [h1, List.getElem?_eq_getElem hi]
    have hs : vs = vs.take i ++ vs[i] :: vs.drop (i + 1) := by rw [List.getElem_cons_drop, List.take_append_drop]
    have hl : (jsB (vs.take i)).length = 2 * i := by rw [jsB_len, List.length_take]; omega
    have hb := h i hi
    rw [List.getD_eq_getElem?_getD, List.getElem?_eq_getElem hi, Option.getD_some] at hb
    have e1 : jsB vs = jsB (vs.take i) ++ (vs[i].toNat / 256 :: vs[i].toNat % 256 :: jsB (vs.drop (i + 1))) := by
      conv => lhs; rw [hs]
      rw [jsB_app]
      rfl
    have g0 : (jsB vs).getD (2 * i) 0 = vs[i].toNat / 256 := by
      rw [e1, List.getD_eq_getElem?_getD, List.getElem?_append_right (by omega), hl, Nat.sub_self]
      rfl
    have g1 : (jsB vs).getD (2 * i + 1) 0 = vs[i].toNat % 256 := by
      rw [e1, List.getD_eq_getElem?_getD, List.getElem?_append_right (by omega), hl, Nat.add_sub_cancel_left]
      rfl
    unfold jvN
    rw [g0, g1]
    congr 1
    omega
  · rw [List.getElem?_eq_none (by rw [jvB_len]; omega), List.getElem?_eq_none (by omega)]
/-- A state comes back from its texts. -/
theorem jsV_jsT {vs : List Int} (h : jsP vs) : jsV (jsT vs) = vs := by
  have hs := jsB_small vs h.1
  have e : bs ((jsT vs).getD 0 ⟨#[]⟩) ++ bs ((jsT vs).getD 1 ⟨#[]⟩) = jsB vs := by
    show bs (ofN ((jsB vs).take 6)) ++ bs (ofN ((jsB vs).drop 6)) = _
    rw [bs_ofN (fun b hb => hs b (List.mem_of_mem_take hb)), bs_ofN (fun b hb => hs b (List.mem_of_mem_drop hb)), List.take_append_drop]
  unfold jsV
  rw [e]
  have := jvB_jsB (jsB vs) vs h.1 rfl
  rw [h.2] at this
  exact this
theorem jsT_jf {vs : List Int} (h : jsP vs) : jfP (jsT vs) := by
  refine ⟨rfl, fun i hi => ?_⟩
  have : i = 0 ∨ i = 1 := by
    have : (jsT vs).length = 2 := rfl
    omega
  rcases this with rfl | rfl
  · exact jsT_size vs h.2 _ (by simp [jsT])
  · exact jsT_size vs h.2 _ (by simp [jsT])

/-- The number of a half's first sector. -/
def hlf (e : Int) : Int := 1 + 2 * (e % 2)
/-- The frame that a sector tells, of a good disk. -/
def fa (P H : List ByteArray) (B : List Bool) (kind A least : Int) : Fr := if B.getD A.toNat false = true then frNo 0 else ckR (rsT P H A.toNat) kind A least
def fa2 (P H : List ByteArray) (B : List Bool) (e : Int) (k : Nat) : Fr := fa P H B 3 (hlf e + k) e
/-- What a disk of five sectors tells. -/
def rcv (P H : List ByteArray) (B : List Bool) : Option (List Int × Int) :=
  if (fa P H B 4 0 0).ok = true then
    if ((fa2 P H B (fa P H B 4 0 0).E 0).ok = true ∧ (fa2 P H B (fa P H B 4 0 0).E 0).E = (fa P H B 4 0 0).E) ∧ ((fa2 P H B (fa P H B 4 0 0).E 1).ok = true ∧ (fa2 P H B (fa P H B 4 0 0).E 1).E = (fa P H B 4 0 0).E) ∧
      (fa2 P H B (fa P H B 4 0 0).E 0).B.size = 6 ∧ (fa2 P H B (fa P H B 4 0 0).E 1).B.size = 6 then
      some (jsV [(fa2 P H B (fa P H B 4 0 0).E 0).B, (fa2 P H B (fa P H B 4 0 0).E 1).B], (fa P H B 4 0 0).E)
    else none
  else none
def rcV (o : Option (List Int × Int)) : List Int := match o with | none => [] | some x => x.1
def rcE (o : Option (List Int × Int)) : Int := match o with | none => 0 | some x => x.2
def rcB (o : Option (List Int × Int)) : Bool := match o with | none => false | some x => true
def rcI (o : Option (List Int × Int)) : Int := match o with | none => -1 | some x => x.2
theorem rdR_E (s : ByteArray) : (rdR s).ok = true → 0 ≤ (rdR s).E ∧ (rdR s).E ≤ 60000 := by
  unfold rdR
  split
  · split
    · split
      · rename_i h
        intro _
        exact h.2.1.2.1
      · intro h; simp [frNo] at h
    · intro h; simp [frNo] at h
  · intro h; simp [frNo] at h
theorem ckR_E (s : ByteArray) (K A l : Int) (h : (ckR s K A l).ok = true) : 0 ≤ (ckR s K A l).E ∧ (ckR s K A l).E ≤ 60000 := by
  unfold ckR at h ⊢
  split at h
  · rename_i h0
    rw [if_pos h0]
    split at h
    · rename_i h1
      rw [if_pos h1]
      split at h
      · rename_i h2
        rw [if_pos h2]
        split at h
        · rename_i h3
          rw [if_pos h3]
          exact rdR_E s h0
        · simp [frNo] at h
      · simp [frNo] at h
    · simp [frNo] at h
  · simp [frNo] at h
theorem fa_E {P H : List ByteArray} {B : List Bool} {K A l : Int} (h : (fa P H B K A l).ok = true) : 0 ≤ (fa P H B K A l).E ∧ (fa P H B K A l).E ≤ 60000 := by
  unfold fa at h ⊢
  split at h
  · simp [frNo] at h
  · rename_i h0
    rw [if_neg h0]
    exact ckR_E _ _ _ _ h
theorem hlf_in {e : Int} : hlf e = 1 ∨ hlf e = 3 := by unfold hlf; omega
theorem rcv_ok {P H : List ByteArray} {B : List Bool} {vs : List Int} {e : Int} (h : rcv P H B = some (vs, e)) : jsP vs ∧ 0 ≤ e ∧ e ≤ 60000 := by
  unfold rcv at h
  split at h
  · rename_i h0
    split at h
    · simp only [Option.some.injEq, Prod.mk.injEq] at h
      obtain ⟨rfl, rfl⟩ := h
      exact ⟨jsV_ok _, fa_E h0⟩
    · simp at h
  · simp at h
end Go.Proofs.Ytpgmocogffolaaa

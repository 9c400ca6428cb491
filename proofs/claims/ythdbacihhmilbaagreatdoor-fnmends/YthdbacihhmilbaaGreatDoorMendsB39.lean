/-
  A code word decoded: the first rows that are not lost stand in it as they were, and they alone tell it; what is told behind a mending is what was told. Mathematics, no program.
-/
import Derived.Test.YthdbacihhmilbaaGreatDoorMendsB38
import Derived.Test.YthdbacihhmilbaaGreatDoorMendsB0
set_option linter.unusedVariables false
set_option linter.unusedSimpArgs false
set_option maxRecDepth 100000
set_option maxHeartbeats 1600000
namespace Go.Proofs.YthdbacihhmilbaaGreatDoor
open Go.RowKit
open Gf (ci nat ciM Sh AllLt invTo solN selM codeN those rowL identN elOk)
namespace Gf
theorem lin_proj (j l : Nat) (hj : j < l) : Lin (fun r => [r.getD j 0]) l := by
 refine ⟨fun s f hl hs hf => ?_, fun s q f hl hl2 hs hq hf => ?_⟩
 ·show [(sc s f).getD j 0] = sc [s.getD j 0] f
  rw [sc_get _ _ _ (by omega)]
  rfl
 ·show [(addRow s q f).getD j 0] = addRow [s.getD j 0] [q.getD j 0] f
  rw [addRow_get _ _ _ _ (by omega) (by omega)]
  rfl
theorem solN_right {A S : List (List Nat)} {n l : Nat} (ha : Sh A n n) (hs : Sh S n l) (hx : Sh (solN A S).1 n l) (hok : (solN A S).2 = true) : A.map (rowL (solN A S).1 l n) = S := by
 apply ext_getD [] (by rw [List.length_map, ha.len, hs.len])
 intro i hi
 rw [List.length_map] at hi
 have hi' : i < n := by rw [ha.len] at hi; exact hi
 rw [map_get _ _ _ _ hi]
 apply ext_getD 0 (by rw [rowL_length, hs.row i hi'])
 intro j hj
 rw [rowL_length] at hj
 rw [rowL_get hx _ j hj]
 have e := solN_map (lin_proj j l hj) ha hs
 have ec : S.map (fun r => [r.getD j 0]) = colN (colJ S j) := by unfold colN colJ; rw [List.map_map]; rfl
 rw [ec] at e
 have hr := solve_right (A := A) (V := colJ S j) ha (colJ_lt hs j) (by unfold colJ; rw [List.length_map, hs.len]) (by rw [e]; exact hok) i hi'
 rw [e] at hr
 have ex : ((solN A S).1.map (fun r => [r.getD j 0])).map (fun r => r.getD 0 0) = colJ (solN A S).1 j := by unfold colJ; rw [List.map_map]; rfl
 rw [ex, colJ_get] at hr
 exact hr
end Gf
theorem dec_keep {D Q l : Nat} {m : List (List Int)} {xs : List Int} (h : DecF D Q l m xs) (k : Nat) (hk : k ∈ firstF xs D Q) : (decM D Q m xs).getD k [] = m.getD k [] := by
 have hk1 := (firstF_mem hk).1
 have he := Gf.solN_right h.shA.1 h.shR (by have := h.shX; unfold decX at this; exact this) (by rw [h.sol.1])
 have hX : (solN (selM (codeN D Q) (firstF xs D Q)) (selM (m.map nat) (firstF xs D Q))).1 = decX D Q m xs := rfl
 rw [hX] at he
 have e1 : decM D Q m xs = ciM ((codeN D Q).map (rowL (decX D Q m xs) l D)) := by
  unfold decM
  rw [← code_ciM, mul_row (Gf.sh_code D Q) h.shX (by have := h.d1; omega)]
 obtain ⟨t, ht1, ht2⟩ := List.getElem_of_mem hk
 have ht3 : (firstF xs D Q).getD t 0 = k := by rw [qg, List.getElem?_eq_getElem ht1]; exact ht2
 have e2 : (List.map (rowL (decX D Q m xs) l D) (selM (codeN D Q) (firstF xs D Q))).getD t [] = (selM (m.map nat) (firstF xs D Q)).getD t [] := by rw [he]
 rw [Gf.map_get _ _ _ _ (by rw [Gf.selM_length]; exact ht1), Gf.selM_get _ _ _ ht1, Gf.selM_get _ _ _ ht1, ht3, natM_get] at e2
 rw [e1, Gf.ciM_get, Gf.map_get _ _ _ _ (by rw [(Gf.sh_code D Q).len]; exact hk1), e2]
 exact ci_nat (piecesOk_at h.ok k (by rw [h.ml]; exact hk1)).2.2
theorem dec_first {D Q l : Nat} {m m' : List (List Int)} {xs xs' : List Int} (h : DecF D Q l m xs) (h' : DecF D Q l m' xs') (hm : ∀ k, k ∈ firstF xs' D Q → m'.getD k [] = (decM D Q m xs).getD k []) : decM D Q m' xs' = decM D Q m xs := by
 have hX := h.shX
 have e : selM (m'.map nat) (firstF xs' D Q) = (selM (codeN D Q) (firstF xs' D Q)).map (rowL (decX D Q m xs) l D) := by
  unfold selM
  rw [List.map_map]
  refine List.map_congr_left fun k hk => ?_
  have hk1 := (firstF_mem hk).1
  have he : decM D Q m xs = ciM ((codeN D Q).map (rowL (decX D Q m xs) l D)) := by
   unfold decM
   rw [← code_ciM, mul_row (Gf.sh_code D Q) hX (by have := h.d1; omega)]
  show (m'.map nat).getD k [] = rowL (decX D Q m xs) l D ((codeN D Q).getD k [])
  rw [natM_get, hm k hk, he, Gf.ciM_get, nat_ciE, Gf.map_get _ _ _ _ (by rw [(Gf.sh_code D Q).len]; exact hk1)]
 have e3 : decX D Q m' xs' = decX D Q m xs := by
  show (solN (selM (codeN D Q) (firstF xs' D Q)) (selM (m'.map nat) (firstF xs' D Q))).1 = _
  rw [e, Gf.solN_back h'.shA.1 hX h'.shA.2]
 unfold decM
 rw [e3]
theorem firstF_old {xs xs' : List Int} {D Q k : Nat} (hsub : ∀ i : Nat, (i : Int) ∈ xs' → (i : Int) ∈ xs) (hk : k ∈ firstF xs' D Q) (hx : (k : Int) ∉ xs) : k ∈ firstF xs D Q := by
 unfold firstF at hk ⊢
 rw [Gf.those_take] at hk ⊢
 obtain ⟨h1, h2⟩ := Gf.those_mem.1 hk
 rw [Bool.and_eq_true, decide_eq_true_eq] at h2
 refine Gf.those_mem.2 ⟨h1, ?_⟩
 rw [Bool.and_eq_true, decide_eq_true_eq]
 refine ⟨by simpa [kp] using hx, Nat.lt_of_le_of_lt ?_ h2.2⟩
 unfold Gf.those
 have : ∀ l : List Nat, (l.filter (kp xs)).length ≤ (l.filter (kp xs')).length := by
  intro l
  induction l with
  | nil => exact Nat.le_refl _
  | cons a l ih =>
   by_cases ha : kp xs a = true
   ·have ha' : kp xs' a = true := by
      have h3 : (a : Int) ∉ xs := by simpa [kp] using ha
      have : (a : Int) ∉ xs' := fun h => h3 (hsub a h)
      simpa [kp] using this
    rw [List.filter_cons_of_pos ha, List.filter_cons_of_pos ha']
    simp only [List.length_cons]
    omega
   ·rw [List.filter_cons_of_neg ha]
    by_cases ha' : kp xs' a = true
    ·rw [List.filter_cons_of_pos ha']
     simp only [List.length_cons]
     omega
    ·rw [List.filter_cons_of_neg ha']
     exact ih
 exact this _
open Gf (ci nat)
theorem rtE_top (es : List Int) (r : Int) (h3 : 3 ≤ cntE es r es.length) : ∀ n k, k < n → es.getD k 0 = r → r ≤ rtE es n
 | 0, k, h, _ => absurd h (Nat.not_lt_zero _)
 | n + 1, k, h, e => by
  simp only [rtE]
  by_cases ek : k = n
  ·subst ek
   rw [e, if_pos h3]
   exact Int.le_max_right _ _
  ·have := rtE_top es r h3 n k (by omega) e
   split
   ·exact Int.le_trans this (Int.le_max_left _ _)
   ·exact this
theorem cntE_mono (es es' : List Int) (r : Int) : ∀ n, (∀ k, k < n → es.getD k 0 = r → es'.getD k 0 = r) → cntE es r n ≤ cntE es' r n
 | 0, _ => Nat.le_refl _
 | n + 1, h => by
  have := cntE_mono es es' r n (fun k hk => h k (by omega))
  simp only [cntE]
  by_cases e : es.getD n 0 = r
  ·rw [if_pos e, if_pos (h n (by omega) e)]
   omega
  ·rw [if_neg e]
   split <;> omega
theorem rtE_stay {es es' : List Int} {n : Nat} (hl : es.length = n) (hl' : es'.length = n) (hr : 0 ≤ rtE es n) (hk : ∀ k, k < n → es.getD k 0 = rtE es n → es'.getD k 0 = rtE es n) (ho : ∀ k, k < n → es'.getD k 0 = rtE es n ∨ es'.getD k 0 = -1) : rtE es' n = rtE es n := by
 have h3 := rtE_has es n hr
 rw [hl] at h3
 have h4 : 3 ≤ cntE es' (rtE es n) n := Nat.le_trans h3 (cntE_mono es es' _ n hk)
 obtain ⟨k, k1, k2⟩ := cntE_some es' (rtE es n) n (by omega)
 have h5 := rtE_top es' (rtE es n) (by rw [hl']; exact h4) n k k1 k2
 have h6 := rtE_has es' n (by omega)
 rw [hl'] at h6
 obtain ⟨j, j1, j2⟩ := cntE_some es' (rtE es' n) n (by omega)
 rcases ho j j1 with e | e
 ·rw [← j2, e]
 ·omega
theorem ci_mem (l : List Nat) (k : Nat) : (k : Int) ∈ ci l ↔ k ∈ l := by
 constructor
 ·intro h
  obtain ⟨b, h1, h2⟩ := List.mem_map.1 h
  have e : b = k := by omega
  rw [← e]
  exact h1
 ·exact fun h => List.mem_map.2 ⟨k, h, rfl⟩
section
variable {P H : List ByteArray} {B : List Bool} {least : Int} {a : Nat}
abbrev mdX (P H : List ByteArray) (B : List Bool) (least : Int) (a : Nat) : List Pc := skL P (mdH H B (a : Int) (skL P H B least a)) B least a
theorem bad_none {k : Nat} (hk : k < 5) (hb : B.getD (a + k) false = true) : (skL P H B least a).getD k none = none := by
 rw [skL_get _ _ _ _ _ _ hk]
 unfold sk
 rw [if_pos hb]
theorem isE_epo {r : Int} {x : Pc} (h : isE r (epo x) = true) : epo x = r ∧ 0 ≤ epo x := by
 unfold isE at h
 simpa using h
theorem md_epo (hH : H.length = P.length) (ha5 : a + 5 ≤ P.length) (n24 : P.length ≤ 24) (hr : 0 ≤ rtX (skL P H B least a)) (k : Nat) (hk : k < 5) : epo ((mdX P H B least a).getD k none) = if B.getD (a + k) false = true then -1 else rtX (skL P H B least a) := by
 rw [sk_mended hH ha5 n24 hr k hk]
 by_cases hb : B.getD (a + k) false = true
 ·rw [if_pos hb, if_pos hb]
  rfl
 ·rw [if_neg hb, if_neg hb]
  split
  ·rename_i hi
   exact (isE_epo hi).1
  ·rfl
theorem md_rt (hH : H.length = P.length) (ha5 : a + 5 ≤ P.length) (n24 : P.length ≤ 24) (hr : 0 ≤ rtX (skL P H B least a)) : rtX (mdX P H B least a) = rtX (skL P H B least a) := by
 have xl := skL_length P H B least a
 have xl' : (mdX P H B least a).length = 5 := skL_length _ _ _ _ _
 refine rtE_stay (es := (skL P H B least a).map epo) (es' := (mdX P H B least a).map epo) (n := 5) (by rw [List.length_map, xl]) (by rw [List.length_map, xl']) hr (fun k hk e => ?_) (fun k hk => ?_)
 ·rw [map_getD _ k (by rw [xl]; exact hk)] at e
  rw [map_getD _ k (by rw [xl']; exact hk), md_epo hH ha5 n24 hr k hk]
  by_cases hb : B.getD (a + k) false = true
  ·rw [bad_none hk hb] at e
   have : (-1 : Int) = rtX (skL P H B least a) := e
   omega
  ·rw [if_neg hb]
   rfl
 ·rw [map_getD _ k (by rw [xl']; exact hk), md_epo hH ha5 n24 hr k hk]
  split
  ·exact .inr rfl
  ·exact .inl rfl
theorem md_oth (hH : H.length = P.length) (ha5 : a + 5 ≤ P.length) (n24 : P.length ≤ 24) (hr : 0 ≤ rtX (skL P H B least a)) (k : Nat) : k ∈ othN (mdX P H B least a) ↔ k ∈ othN (skL P H B least a) ∧ B.getD (a + k) false = true := by
 rw [othN_mem (skL_length _ _ _ _ _) k, othN_mem (skL_length _ _ _ _ _) k, md_rt hH ha5 n24 hr]
 constructor
 ·rintro ⟨hk, hi⟩
  rw [md_epo hH ha5 n24 hr k hk] at hi
  by_cases hb : B.getD (a + k) false = true
  ·refine ⟨⟨hk, ?_⟩, hb⟩
   rw [bad_none hk hb]
   unfold isE
   simp [epo]
  ·rw [if_neg hb] at hi
   unfold isE at hi
   simp at hi
   omega
 ·rintro ⟨⟨hk, hi⟩, hb⟩
  refine ⟨hk, ?_⟩
  rw [md_epo hH ha5 n24 hr k hk, if_pos hb]
  unfold isE
  simp
theorem md_dc (hH : H.length = P.length) (ha5 : a + 5 ≤ P.length) (n24 : P.length ≤ 24) (hr : 0 ≤ rtX (skL P H B least a)) : dcM (mdX P H B least a) = dcM (skL P H B least a) := by
 have xl := skL_length P H B least a
 have xok := skL_ok P H B least a
 have xl' : (mdX P H B least a).length = 5 := skL_length _ _ _ _ _
 have xok' : ∀ k, okP ((mdX P H B least a).getD k none) := skL_ok _ _ _ _ _
 have er := md_rt (B := B) (least := least) hH ha5 n24 hr
 have D := (dc_yes xl xok hr).2
 have D' := (dc_yes xl' xok' (by rw [er]; exact hr)).2
 have r16 := (tf_r16 (dc_tf xl xok hr)).1
 have mo : ∀ k : Nat, (k : Int) ∈ othE ((skL P H B least a).map epo) (rtX (skL P H B least a)) 5 ↔ k ∈ othN (skL P H B least a) := fun k => by
  rw [← othN_ci]
  exact ci_mem _ k
 have mo' : ∀ k : Nat, (k : Int) ∈ othE ((mdX P H B least a).map epo) (rtX (mdX P H B least a)) 5 ↔ k ∈ othN (mdX P H B least a) := fun k => by
  rw [← othN_ci]
  exact ci_mem _ k
 refine dec_first D D' (fun k hk => ?_)
 have hk5 : k < 5 := (firstF_mem hk).1
 have hno : ¬ ((k : Int) ∈ othE ((mdX P H B least a).map epo) (rtX (mdX P H B least a)) 5) := (firstF_mem hk).2
 rw [mo'] at hno
 have hn2 : ¬ (k ∈ othN (skL P H B least a) ∧ B.getD (a + k) false = true) := fun h => hno ((md_oth hH ha5 n24 hr k).2 h)
 rw [bdC_get _ k (by rw [xl']; exact hk5), sk_mended hH ha5 n24 hr k hk5]
 by_cases hin : k ∈ othN (skL P H B least a)
 ·have hb : ¬ B.getD (a + k) false = true := fun h => hn2 ⟨hin, h⟩
  have hi := ((othN_mem xl k).1 hin).2
  rw [if_neg hb, if_neg (by rw [hi]; decide)]
  show ci (bs (ofN ((dcN (skL P H B least a)).getD k []))) = (dcM (skL P H B least a)).getD k []
  rw [bs_ofN (dcN_ok r16 k hk5).2, dcN_get r16 k hk5]
  exact Gf.ci_nat (r16.row k hk5).2
 ·have hi : isE (rtX (skL P H B least a)) (epo ((skL P H B least a).getD k none)) = true := by
    cases h : isE (rtX (skL P H B least a)) (epo ((skL P H B least a).getD k none)) with
    | true => rfl
    | false => exact absurd ((othN_mem xl k).2 ⟨hk5, h⟩) hin
  have hb : ¬ B.getD (a + k) false = true := fun h => by
   rw [bad_none hk5 h] at hi
   unfold isE at hi
   simp [epo] at hi
  rw [if_neg hb, if_pos hi]
  have hold : k ∈ firstF (othE ((skL P H B least a).map epo) (rtX (skL P H B least a)) 5) 3 2 := firstF_old (fun i hi => (mo i).2 ((md_oth hH ha5 n24 hr i).1 ((mo' i).1 hi)).1) hk (fun h => hin ((mo k).1 h))
  have e := dec_keep D k hold
  rw [bdC_get _ k (by rw [xl]; exact hk5)] at e
  exact e.symm
end
open Gf (ci nat)
theorem pkE_nat (f : Int → Bool) (es : List Int) : ∀ k, nat (pkE f es k) = (List.range k).filter (fun i => f (es.getD i 0))
 | 0 => rfl
 | k + 1 => by
  have ih := pkE_nat f es k
  simp only [pkE]
  rw [List.range_succ, List.filter_append, ← ih]
  by_cases h : f (es.getD k 0) = true
  ·rw [if_pos h, List.filter_cons_of_pos (p := fun i => f (es.getD i 0)) h]
   simp [nat]
  ·rw [if_neg h, List.filter_cons_of_neg (p := fun i => f (es.getD i 0)) h]
   simp
theorem lfN_filter (B : List Bool) (a : Nat) (os : List Nat) : ∀ n, n ≤ os.length → lfN B a os n = (os.take n).filter (fun z => !B.getD (a + z) false)
 | 0, _ => rfl
 | n + 1, h => by
  have ih := lfN_filter B a os n (by omega)
  have e : os.take (n + 1) = os.take n ++ [os.getD n 0] := by
   rw [List.take_succ_eq_append_getElem (by omega), qg, List.getElem?_eq_getElem (by omega)]
   rfl
  rw [e, List.filter_append, ← ih]
  simp only [lfN]
  by_cases hb : B.getD (a + os.getD n 0) false = true
  ·rw [if_pos hb, List.filter_cons_of_neg (by rw [hb]; decide)]
   simp
  ·have hb' : B.getD (a + os.getD n 0) false = false := by
     cases h : B.getD (a + os.getD n 0) false with
     | true => exact absurd h hb
     | false => rfl
   rw [if_neg hb, List.filter_cons_of_pos (by rw [hb']; rfl)]
   rfl
theorem filter_two {α : Type} (p : α → Bool) : ∀ l : List α, (l.filter p).length + (l.filter (fun x => !p x)).length = l.length
 | [] => rfl
 | x :: l => by
  have ih := filter_two p l
  by_cases h : p x = true
  ·rw [List.filter_cons_of_pos h, List.filter_cons_of_neg (by rw [h]; decide)]
   simp only [List.length_cons]
   omega
  ·have h' : p x = false := by
     cases hh : p x with
     | true => exact absurd hh h
     | false => rfl
   rw [List.filter_cons_of_neg h, List.filter_cons_of_pos (by rw [h']; rfl)]
   simp only [List.length_cons]
   omega
section
variable {P H : List ByteArray} {B : List Bool} {least : Int} {a : Nat}
theorem othN_filter (xs : List Pc) : othN xs = (List.range 5).filter (fun i => !isE (rtX xs) ((xs.map epo).getD i 0)) := pkE_nat _ _ 5
theorem md_othN (hH : H.length = P.length) (ha5 : a + 5 ≤ P.length) (n24 : P.length ≤ 24) (hr : 0 ≤ rtX (skL P H B least a)) : othN (mdX P H B least a) = (othN (skL P H B least a)).filter (fun z => B.getD (a + z) false) := by
 have h := md_oth (B := B) (least := least) hH ha5 n24 hr
 rw [othN_filter (mdX P H B least a), othN_filter (skL P H B least a), List.filter_filter]
 refine List.filter_congr fun k hk => ?_
 have hk5 : k < 5 := List.mem_range.1 hk
 have m1 : k ∈ othN (mdX P H B least a) ↔ (!isE (rtX (mdX P H B least a)) (((mdX P H B least a).map epo).getD k 0)) = true := by
  rw [othN_filter, List.mem_filter]
  exact ⟨fun h => h.2, fun h => ⟨hk, h⟩⟩
 have m2 : k ∈ othN (skL P H B least a) ↔ (!isE (rtX (skL P H B least a)) (((skL P H B least a).map epo).getD k 0)) = true := by
  rw [othN_filter, List.mem_filter]
  exact ⟨fun h => h.2, fun h => ⟨hk, h⟩⟩
 have h1 := h k
 rw [m1, m2] at h1
 apply Bool.eq_iff_iff.2
 rw [h1, Bool.and_eq_true]
 exact And.comm
theorem md_count (hH : H.length = P.length) (ha5 : a + 5 ≤ P.length) (n24 : P.length ≤ 24) (hr : 0 ≤ rtX (skL P H B least a)) : (othN (mdX P H B least a)).length + (mdL B (a : Int) (skL P H B least a)).length = (othN (skL P H B least a)).length := by
 have e : mdL B (a : Int) (skL P H B least a) = (othN (skL P H B least a)).filter (fun z => !B.getD (a + z) false) := by
  show lfN B (a : Int).toNat _ _ = _
  rw [Int.toNat_natCast, lfN_filter _ _ _ _ (Nat.le_refl _), List.take_length]
 rw [md_othN hH ha5 n24 hr, e]
 exact filter_two _ _
theorem md_ok (hH : H.length = P.length) (ha5 : a + 5 ≤ P.length) (n24 : P.length ≤ 24) (h : dcOk (skL P H B least a)) : dcOk (mdX P H B least a) ∧ dcT true (mdX P H B least a) = dcT true (skL P H B least a) := by
 obtain ⟨hr, ht⟩ := h
 have e := md_dc (B := B) (least := least) hH ha5 n24 hr
 refine ⟨⟨by rw [md_rt hH ha5 n24 hr]; exact hr, by rw [e]; exact ht⟩, ?_⟩
 show tfT (dcM (mdX P H B least a)) = tfT (dcM (skL P H B least a))
 rw [e]
end
open Gf (ci nat)
section
variable {P H : List ByteArray} {B : List Bool} {least : Int} {a : Nat}
theorem md_gk (gk : gkP P H B) (ha5 : a + 5 ≤ P.length) (hr : 0 ≤ rtX (skL P H B least a)) : gkP P (mdH H B (a : Int) (skL P H B least a)) B := by
 obtain ⟨g1, hH, hB, g4, g5, g6⟩ := gk
 have n24 := g1.2
 have xl := skL_length P H B least a
 have xok := skL_ok P H B least a
 have r16 := (tf_r16 (dc_tf xl xok hr)).1
 have hE : 0 ≤ rtX (skL P H B least a) ∧ rtX (skL P H B least a) ≤ 60000 := ⟨hr, rtX_le xok⟩
 have hmem := fun k => othN_mem xl k
 have eM : mdH H B (a : Int) (skL P H B least a) = mdW H B a (rtX (skL P H B least a)) (dcN (skL P H B least a)) (othN (skL P H B least a)) (othN (skL P H B least a)).length := by show mdW H B (a : Int).toNat _ _ _ _ = _; rw [Int.toNat_natCast]
 rw [eM]
 have hrow := fun k hk => (dcN_ok r16 k hk).1
 generalize dcN (skL P H B least a) = m at *
 generalize rtX (skL P H B least a) = r at *
 generalize othN (skL P H B least a) = os at *
 have hall : ∀ x, x < P.length → (mdW H B a r m os os.length).getD x ⟨#[]⟩ = H.getD x ⟨#[]⟩ ∨ (B.getD x false = false ∧ ((mdW H B a r m os os.length).getD x ⟨#[]⟩).size = 28) := by
  intro x hx
  by_cases h : ∃ j, j < (lfN B a os os.length).length ∧ a + (lfN B a os os.length).getD j 0 = x
  ·right
   obtain ⟨j, hj, e⟩ := h
   obtain ⟨h1, i, h2, h3⟩ := lfN_mem B a os os.length _ (getD_in _ j hj)
   have hos : (lfN B a os os.length).getD j 0 ∈ os := by rw [h3]; exact getD_in os i h2
   have h5 := ((hmem _).1 hos).1
   have hit := wrTo_hit H a r m (lfN B a os os.length) (lfN B a os os.length).length x (by omega) ⟨j, hj, e⟩
   refine ⟨by rw [← e]; exact h1, ?_⟩
   show ((wrTo H a r m (lfN B a os os.length) (lfN B a os os.length).length).getD x ⟨#[]⟩).size = 28
   rw [hit]
   have ex : x - a = (lfN B a os os.length).getD j 0 := by omega
   exact (sc_good (by omega) hE (hrow (x - a) (by omega))).2
  ·left
   exact wrTo_miss _ _ _ _ _ _ _ (fun j hj e => h ⟨j, hj, e⟩)
 refine ⟨g1, (mdW_length _ _ _ _ _ _ _).trans hH, hB, g4, ?_, ?_⟩
 ·intro i hi
  rcases hall i hi with h | ⟨_, h⟩
  ·rw [h]; exact g5 i hi
  ·omega
 ·intro i hi hb
  rcases hall i hi with h | ⟨h, _⟩
  ·rw [h]; exact g6 i hi hb
  ·rw [hb] at h; simp at h
end
theorem oth_num (xs : List Pc) (j : Nat) : (othE (xs.map epo) (rtX xs) 5).getD j 0 = (((othN xs).getD j 0 : Nat) : Int) := by
 rw [← othN_ci]
 simp only [ci, qg, List.getElem?_map]
 cases (othN xs)[j]? <;> simp
theorem oth_len (xs : List Pc) : (othE (xs.map epo) (rtX xs) 5).length = (othN xs).length := by
 rw [← othN_ci]
 simp [ci]
theorem md_all {P H : List ByteArray} {B : List Bool} {A least : Int} (h : (gkP P H B ∧ ftP P A) ∧ dcOk (rsX P H B least A)) :
    ((gkP P (mdH H B A (rsX P H B least A)) B ∧ ftP P A) ∧ dcOk (rsX P (mdH H B A (rsX P H B least A)) B least A)) ∧
    dcT true (rsX P (mdH H B A (rsX P H B least A)) B least A) = dcT true (rsX P H B least A) ∧
    ((rsOth true (rsX P (mdH H B A (rsX P H B least A)) B least A)).length : Int) + mdC true B A (rsX P H B least A) = ((rsOth true (rsX P H B least A)).length : Int) ∧
    (∀ j, j < (rsOth true (rsX P (mdH H B A (rsX P H B least A)) B least A)).length → ∃ n : Nat, (rsOth true (rsX P (mdH H B A (rsX P H B least A)) B least A)).getD j 0 = (n : Int) ∧ n < 5 ∧ B.getD (A.toNat + n) false = true) := by
 obtain ⟨⟨gk, f1, f2⟩, hd⟩ := h
 obtain ⟨a, rfl⟩ : ∃ a : Nat, A = (a : Int) := ⟨A.toNat, by omega⟩
 have ha5 : a + 5 ≤ P.length := by omega
 have n24 := gk.1.2
 have hH := gk.2.1
 have e : ∀ H', rsX P H' B least (a : Int) = skL P H' B least a := fun H' => by unfold rsX; rw [Int.toNat_natCast]
 simp only [e] at hd ⊢
 have hr := hd.1
 have m1 := md_ok (B := B) (least := least) hH ha5 n24 hd
 have m2 := md_count (B := B) (least := least) hH ha5 n24 hr
 unfold mdX at m2
 have m3 := md_othN (B := B) (least := least) hH ha5 n24 hr
 refine ⟨⟨⟨md_gk gk ha5 hr, ⟨f1, f2⟩⟩, m1.1⟩, m1.2, ?_, ?_⟩
 ·simp only [rsOth, mdC, if_true, oth_len]
  omega
 ·intro j hj
  simp only [rsOth, if_true] at hj ⊢
  rw [oth_len] at hj
  refine ⟨(othN (mdX P H B least a)).getD j 0, oth_num _ j, othN_lt _ j hj, ?_⟩
  have hin := getD_in (othN (mdX P H B least a)) j hj
  rw [m3] at hin
  rw [m3]
  have := (List.mem_filter.1 hin).2
  rw [Int.toNat_natCast]
  exact this
open Gf (ci nat)
theorem dat_enc {S : ByteArray} (h : S.size ≤ 47) : EncF 3 2 16 (datM S) := ⟨by omega, by omega, by omega, by omega, datM_length S, by rw [datM_get S 0 (by omega), Gf.ci_length, rowN_length h 0 (by omega)], by omega, datM_ok h⟩
theorem dat_all {S : ByteArray} (h : S.size ≤ 47) : (datM S).flatMap nat = blk S := by
 have e : datM S = [ci (rowN S 0), ci (rowN S 1), ci (rowN S 2)] := rfl
 rw [e]
 simp only [List.flatMap_cons, List.flatMap_nil, List.append_nil]
 rw [nat_ci', nat_ci', nat_ci']
 unfold rowN
 have hl := blk_length h
 generalize blk S = l at *
 have e1 : l = l.take 16 ++ l.drop 16 := (List.take_append_drop 16 l).symm
 have e2 : l.drop 16 = (l.drop 16).take 16 ++ (l.drop 32) := by
  have := (List.take_append_drop 16 (l.drop 16)).symm
  rw [List.drop_drop] at this
  exact this
 have e3 : (l.drop 32).take 16 = l.drop 32 := List.take_of_length_le (by rw [List.length_drop]; omega)
 show (l.drop (16 * 0)).take 16 ++ ((l.drop (16 * 1)).take 16 ++ (l.drop (16 * 2)).take 16) = l
 show (l.drop 0).take 16 ++ ((l.drop 16).take 16 ++ (l.drop 32).take 16) = l
 rw [e3, ← e2, List.drop_zero, ← e1]
theorem pf_back {S : ByteArray} (h : S.size ≤ 47) : tfOk (mulM (codeM 3 2) (datM S)) = true ∧ tfP (mulM (codeM 3 2) (datM S)) ∧ tfT (mulM (codeM 3 2) (datM S)) = S := by
 have ef := dat_enc h
 have hL : tfL (mulM (codeM 3 2) (datM S)) = blk S := by
  unfold tfL
  rw [ef.front]
  exact dat_all h
 have hN : tfN (mulM (codeM 3 2) (datM S)) = S.size := by
  unfold tfN
  rw [hL]
  rfl
 have hc := ef.chk
 refine ⟨?_, ⟨by rw [hN]; exact h, ?_⟩, ?_⟩
 ·unfold tfOk
  have hc' : chkR 3 2 (mulM (codeM 3 2) (datM S)) = (true, true) := hc
  rw [hc', (ef.row 0 (by omega)).1]
  rfl
 ·rw [hL, hN]
  unfold blk
  rw [Nat.add_comm, List.drop_succ_cons, ← bs_length S, List.drop_left]
 ·unfold tfT
  rw [hL, hN]
  unfold blk
  rw [List.drop_succ_cons, List.drop_zero]
  have : (bs S ++ List.replicate (47 - S.size) 0).take S.size = bs S := by
   conv => lhs; rw [← bs_length S]
   rw [List.take_left]
  rw [this]
  exact ofN_bs S
open Gf (ci nat)
theorem s_1x (p h b vk : Value) (P H : List ByteArray) (B : List Bool) (lo hi n : Nat) (k : Nat) (T : ByteArray) (w : World) (d : DskV w lo hi p h b P H B) (hhi : hi ≤ w.heap.size) (hP : P.length = n) (hH : H.length = n) (hB : B.length = n) (hn : 0 < n ∧ n ≤ 24) (kv : ∀ w', Chg lo hi w w' → Rd w' vk ([] : List Int)) (hk : k < n) (hBk : B.getD k false = true) :
    Calls Tryz.prog 83 #[.agg #[p, h, b], .agg #[.int .i64 1, .int .i64 (k : Int), .string T, vk]] w fun e w' => e = .returned (.tuple #[.agg #[p, h, b], .bool false]) ∧ Below w.heap.size w w' := by
 obtain ⟨gp, cp, gh, ch, gb, cb, rfl, rfl, rfl, n1, n2, n3, ⟨t1, t2, t3⟩, _⟩ := d.blocks hP hH hB hn.1
 have KV := hide kv
 obtain ⟨av, cv, ev', mv, _⟩ := (kv w (Chg.refl _ _ _)).sl
 have ev : vk = .slice av 0 cv := ev'
 clear ev'
 subst ev
 have A0 := Hand.three w #[.slice (some ⟨gp, 0, none⟩) n cp, .slice (some ⟨gh, 0, none⟩) n ch, .slice (some ⟨gb, 0, none⟩) n cb] #[.int .i64 1, .int .i64 (k : Int), .string T, .slice av 0 cv] nil3 26 42 26
 obtain ⟨W0, e0⟩ : ∃ W0, W0 = ((w.alloc (.cells #[.slice (some ⟨gp, 0, none⟩) n cp, .slice (some ⟨gh, 0, none⟩) n ch, .slice (some ⟨gb, 0, none⟩) n cb] 26)).alloc (.cells #[.int .i64 1, .int .i64 (k : Int), .string T, .slice av 0 cv] 42)).alloc (.cells nil3 26) := ⟨_, rfl⟩
 rw [← e0] at A0
 have z0 := A0.atBox 0 rfl
 have s0 : w.heap.size + 1 + 1 < W0.heap.size := z0.lt
 have E0 := hide e0.symm
 have C0 := hide (Chg.ofBelow (lo := w.heap.size) (hi := w.heap.size) A0.below)
 have X0 := hide (A0.atBox 2 rfl)
 have Y0 := hide (A0.atBox 1 rfl)
 have Z0 := hide z0
 have D0 := hide (d.below A0.below)
 have LP := hide hP
 have LH := hide hH
 have LB := hide hB
 clear kv d A0 z0 e0 hP hH hB
 have hk0 : (0 : Int) ≤ (k : Int) := by omega
 have hk' : (k : Int) < (n : Int) := by omega
 go_enter Tryz.func83, Tryz.ntmps83
 go_wp2_with fail
 rw [E0.out]
 refine (l7There_yes _ _ _ _ _ _ _ hk0 hk' (by omega)).mono ?_
 rintro e u1 ⟨rfl, q⟩
 have X1 := hide (X0.out.below q)
 have Y1 := hide (Y0.out.below q)
 have Z1 := hide (Z0.out.below q)
 have D1 := hide (D0.out.below q)
 have C1 := hide (C0.out.trans (Chg.ofBelow q))
 have s1 := q.size
 clear q X0 Y0 Z0 D0 C0 E0
 obtain ⟨hb1, hb2⟩ := D1.out.cellB LB.out k hk
 rw [hBk] at hb1
 obtain ⟨y0, y1, y2, y3⟩ := Y1.out.c4
 obtain ⟨c0, c1, c2⟩ := X1.out.c3
 go_wp2
 go_quiet (fail)
 have q := below_drewN (Below.refl u1.heap.size u1) nq
 have X2 := hide (X1.out.below q)
 have Y2 := hide (Y1.out.below q)
 have Z2 := hide (Z1.out.below q)
 have D2 := hide (D1.out.below q)
 have C2 := hide (C1.out.trans (Chg.ofBelow q))
 have s2 := q.size
 generalize u1.drewN nq = u2 at *
 clear q X1 Y1 Z1 D1 C1
 obtain ⟨y0, y1, y2, y3⟩ := Y2.out.c4
 obtain ⟨c0, c1, c2⟩ := X2.out.c3
 obtain ⟨r0, r1, r2⟩ := Z2.out.c3
 have f0 := Z2.out.frozen 0
 have f1 := Z2.out.frozen 1
 have f2 := Z2.out.frozen 2
 have XF := hide (Z2.out.store3 (.slice (some ⟨gp, 0, none⟩) n cp) (.slice (some ⟨gh, 0, none⟩) n ch) (.slice (some ⟨gb, 0, none⟩) n cb))
 have c6 := Chg.store3 (lo := w.heap.size + 1 + 1) (hi := w.heap.size + 1 + 1 + 1) u2 (w.heap.size + 1 + 1) (.slice (some ⟨gp, 0, none⟩) n cp) (.slice (some ⟨gh, 0, none⟩) n ch) (.slice (some ⟨gb, 0, none⟩) n cb) (Nat.le_refl _) (by omega)
 have CC := hide (chg_new C2.out c6 (by omega))
 clear c6
 go_wp2
 exact bodyPost_ret (res_dsk2 rfl _ _ (w.heap.size + 1 + 1) _ _ _ (0, 0) rfl XF.out) rfl ⟨rfl, CC.out.below (Nat.le_refl _) (Nat.le_refl _)⟩
theorem l8Put_bad (p h b : Value) (P H : List ByteArray) (B : List Bool) (a : Nat) (E : Int) (u : Value) (row : List Nat) (lo hi n : Nat) (w : World) (d : DskV w lo hi p h b P H B) (hhi : hi ≤ w.heap.size) (hP : P.length = n) (hH : H.length = n) (hB : B.length = n) (hn : 0 < n ∧ n ≤ 24) (ha : a < n)
    (hE : 0 ≤ E ∧ E ≤ 60000) (hu : Rd w u (ci row)) (hr : row.length = 16) (hl : ∀ x ∈ row, x < 256) (hy : B.getD a false = true) :
    Calls Tryz.prog 44 #[.agg #[p, h, b], .int .i64 (a : Int), .int .i64 E, u] w fun e w' => e = .returned (.tuple #[.agg #[p, h, b], .bool false]) ∧ Below w.heap.size w w' := by
 obtain ⟨En, hEn⟩ : ∃ En : Nat, E = (En : Int) := ⟨E.toNat, by omega⟩
 have SC := hide (sc_frB (A := a) (row := row) (by omega) hE hr)
 have G2 := hide (sc_good (A := a) (row := row) (by omega) hE hr).2
 have C1 := hide (fun W hv => l8Text_calls u row W hv hl (by omega))
 have C2 := hide (fun W => l6Frame_calls 2 a E.toNat (ofN row) W (by omega) (by omega) (by omega) (by rw [ofN_size]; omega))
 rw [SC.out] at C2
 subst hEn
 rw [Int.toNat_natCast] at C2
 generalize scT a (En : Int) row = T at *
 generalize ofN row = bo at *
 have U := hide hu
 obtain ⟨W0, hW⟩ : ∃ W0, W0 = (w.alloc (.cells #[p, h, b] 26)).alloc (.cells #[.slice none 0 0, .slice none 0 0, .slice none 0 0] 26) := ⟨_, rfl⟩
 have b0 : Below w.heap.size w W0 := by rw [hW]; exact (below_box _ _).trans ((below_box _ _).mono (by simp))
 have x0 : BoxAt W0 w.heap.size #[p, h, b] 26 := by rw [hW]; exact (BoxAt.new _ _ _).below (below_box _ _)
 have x1 : BoxAt W0 (w.heap.size + 1) #[.slice none 0 0, .slice none 0 0, .slice none 0 0] 26 := by
  rw [hW]
  have := BoxAt.new (w.alloc (.cells #[p, h, b] 26)) #[.slice none 0 0, .slice none 0 0, .slice none 0 0] 26
  simpa using this
 have HW := hide hW
 have B0 := hide b0
 have X0 := hide x0
 have X1 := hide x1
 have D0 := hide (d.below b0)
 have hs0 : w.heap.size + 1 < W0.heap.size := x1.lt
 obtain ⟨ap, cp, ah, ch, ab, cb, rfl, rfl, rfl⟩ := d.sl
 have HPl := hide hP
 have HHl := hide hH
 have HBl := hide hB
 clear hW b0 x0 x1 d hu SC hl hP hH hB
 go_enter Tryz.func44, Tryz.ntmps44
 go_wp2_with fail
 rw [← HW.out]
 refine (C1.out _ (U.out.below B0.out)).mono ?_
 rintro e w1 ⟨rfl, q⟩
 have B1 := hide (B0.out.trans (q.mono B0.out.size))
 have X01 := hide (X0.out.below q)
 have X11 := hide (X1.out.below q)
 have D1 := hide (D0.out.below q)
 clear q X0 X1 D0 B0
 go_wp2_with fail
 refine (C2.out _).mono ?_
 rintro e w2 ⟨rfl, q⟩
 have B2 := hide (B1.out.trans (q.mono B1.out.size))
 have X02 := hide (X01.out.below q)
 have X12 := hide (X11.out.below q)
 have D2 := hide (D1.out.below q)
 clear q X01 X11 D1 B1
 obtain ⟨c0, c1, c2⟩ := X02.out.c3
 have C3 := hide (s_1x _ _ _ (.slice none 0 0) P H B lo hi n a T w2 D2.out (Nat.le_trans hhi B2.out.size) HPl.out HHl.out HBl.out hn (fun _ _ => rd_nil' _) ha hy)
 go_wp2_with fail
 refine C3.out.mono ?_
 rintro e w3 ⟨rfl, q⟩
 have B3 := hide (B2.out.trans (q.mono B2.out.size))
 have X13 := hide (X12.out.below q)
 obtain ⟨d0, d1, d2⟩ := X13.out.c3
 have g0 := X13.out.frozen 0
 have g1 := X13.out.frozen 1
 have g2 := X13.out.frozen 2
 clear q c0 c1 c2
 have XZ := hide (X13.out.store3 (.slice ap P.length cp) (.slice ah H.length ch) (.slice ab B.length cb))
 have CZ : Hid (Chg (w.heap.size + 1) (w.heap.size + 2) w3 (((w3.setCell ⟨w.heap.size + 1, 0, none⟩ (.slice ap P.length cp)).setCell ⟨w.heap.size + 1, 1, none⟩ (.slice ah H.length ch)).setCell ⟨w.heap.size + 1, 2, none⟩ (.slice ab B.length cb))) := Chg.store3 _ _ _ _ _ (Nat.le_refl _) (by omega)
 go_wp2
 exact bodyPost_ret (res_dsk2 rfl _ _ (w.heap.size + 1) _ _ _ (0, 0) rfl XZ.out) rfl ⟨rfl, B3.out.trans (CZ.out.below (by omega) (by have := B3.out.size; omega))⟩
theorem l8Put_good (p h b : Value) (P H : List ByteArray) (B : List Bool) (a : Nat) (E : Int) (u : Value) (row : List Nat) (lo hi n : Nat) (w : World) (d : DskV w lo hi p h b P H B) (hhi : hi ≤ w.heap.size) (hP : P.length = n) (hH : H.length = n) (hB : B.length = n) (hn : 0 < n ∧ n ≤ 24) (ha : a < n)
    (hE : 0 ≤ E ∧ E ≤ 60000) (hu : Rd w u (ci row)) (hr : row.length = 16) (hl : ∀ x ∈ row, x < 256) (hy : B.getD a false = false) :
    Calls Tryz.prog 44 #[.agg #[p, h, b], .int .i64 (a : Int), .int .i64 E, u] w fun e w' => e = .returned (.tuple #[.agg #[p, h, b], .bool true]) ∧ (true = true → DskV w' lo hi p h b P (H.set a (scT a E row)) B) ∧ Chg lo hi w w' := by
 obtain ⟨En, hEn⟩ : ∃ En : Nat, E = (En : Int) := ⟨E.toNat, by omega⟩
 have SC := hide (sc_frB (A := a) (row := row) (by omega) hE hr)
 have G2 := hide (sc_good (A := a) (row := row) (by omega) hE hr).2
 have C1 := hide (fun W hv => l8Text_calls u row W hv hl (by omega))
 have C2 := hide (fun W => l6Frame_calls 2 a E.toNat (ofN row) W (by omega) (by omega) (by omega) (by rw [ofN_size]; omega))
 rw [SC.out] at C2
 subst hEn
 rw [Int.toNat_natCast] at C2
 generalize scT a (En : Int) row = T at *
 generalize ofN row = bo at *
 have U := hide hu
 obtain ⟨W0, hW⟩ : ∃ W0, W0 = (w.alloc (.cells #[p, h, b] 26)).alloc (.cells #[.slice none 0 0, .slice none 0 0, .slice none 0 0] 26) := ⟨_, rfl⟩
 have b0 : Below w.heap.size w W0 := by rw [hW]; exact (below_box _ _).trans ((below_box _ _).mono (by simp))
 have x0 : BoxAt W0 w.heap.size #[p, h, b] 26 := by rw [hW]; exact (BoxAt.new _ _ _).below (below_box _ _)
 have x1 : BoxAt W0 (w.heap.size + 1) #[.slice none 0 0, .slice none 0 0, .slice none 0 0] 26 := by
  rw [hW]
  have := BoxAt.new (w.alloc (.cells #[p, h, b] 26)) #[.slice none 0 0, .slice none 0 0, .slice none 0 0] 26
  simpa using this
 have HW := hide hW
 have B0 := hide b0
 have X0 := hide x0
 have X1 := hide x1
 have D0 := hide (d.below b0)
 have hs0 : w.heap.size + 1 < W0.heap.size := x1.lt
 obtain ⟨ap, cp, ah, ch, ab, cb, rfl, rfl, rfl⟩ := d.sl
 have HPl := hide hP
 have HHl := hide hH
 have HBl := hide hB
 clear hW b0 x0 x1 d hu SC hl hP hH hB
 go_enter Tryz.func44, Tryz.ntmps44
 go_wp2_with fail
 rw [← HW.out]
 refine (C1.out _ (U.out.below B0.out)).mono ?_
 rintro e w1 ⟨rfl, q⟩
 have B1 := hide (B0.out.trans (q.mono B0.out.size))
 have X01 := hide (X0.out.below q)
 have X11 := hide (X1.out.below q)
 have D1 := hide (D0.out.below q)
 clear q X0 X1 D0 B0
 go_wp2_with fail
 refine (C2.out _).mono ?_
 rintro e w2 ⟨rfl, q⟩
 have B2 := hide (B1.out.trans (q.mono B1.out.size))
 have X02 := hide (X01.out.below q)
 have X12 := hide (X11.out.below q)
 have D2 := hide (D1.out.below q)
 clear q X01 X11 D1 B1
 obtain ⟨c0, c1, c2⟩ := X02.out.c3
 have C3 := hide (s_1c _ _ _ (.slice none 0 0) P H B lo hi n a T w2 D2.out (Nat.le_trans hhi B2.out.size) HPl.out HHl.out HBl.out hn (fun _ _ => rd_nil' _) ha hy (by rw [G2.out]; omega) (by rw [G2.out]; omega))
 go_wp2_with fail
 refine C3.out.mono ?_
 rintro e w3 ⟨rfl, sp1, sp2⟩
 have SP1 := hide sp1
 have SP2 := hide sp2
 have X13 := hide (X12.out.chg sp2 (by omega))
 obtain ⟨d0, d1, d2⟩ := X13.out.c3
 have g0 := X13.out.frozen 0
 have g1 := X13.out.frozen 1
 have g2 := X13.out.frozen 2
 clear sp1 sp2 c0 c1 c2
 have XZ := hide (X13.out.store3 (.slice ap P.length cp) (.slice ah H.length ch) (.slice ab B.length cb))
 have CZ : Hid (Chg (w.heap.size + 1) (w.heap.size + 2) w3 (((w3.setCell ⟨w.heap.size + 1, 0, none⟩ (.slice ap P.length cp)).setCell ⟨w.heap.size + 1, 1, none⟩ (.slice ah H.length ch)).setCell ⟨w.heap.size + 1, 2, none⟩ (.slice ab B.length cb))) := Chg.store3 _ _ _ _ _ (Nat.le_refl _) (by omega)
 go_wp2
 refine bodyPost_ret (res_dsk2 rfl _ _ (w.heap.size + 1) _ _ _ (0, 0) rfl XZ.out) rfl ⟨rfl, fun e => ?_, ?_⟩
 ·exact (SP1.out e).chg CZ.out (.inl (by omega))
 ·exact chg_new ((Chg.ofBelow B2.out).trans SP2.out) CZ.out (by omega)
end Go.Proofs.YthdbacihhmilbaaGreatDoor

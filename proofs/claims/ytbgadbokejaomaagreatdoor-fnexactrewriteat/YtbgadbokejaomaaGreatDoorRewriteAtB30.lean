/-
  WriteStripe: the program's and its model's, at every disk, numbers and text. The program's table of rests must hold its seven numbers where the program's own functions are called. A piece put into its sector by the model: l8Put. The contract says what it asks. WriteStripe of the model, at every disk, numbers and text. No condition but that a number is one of 64 bits. A scrub's Epochs written; a disk and a row of a hand put together; a block's three cells stored. No call is walked here.
-/
import Derived.Test.YtbgadbokejaomaaGreatDoorRewriteAtB29
import Derived.Test.YtbgadbokejaomaaGreatDoorRewriteAtB26
import Derived.Test.YtbgadbokejaomaaGreatDoorRewriteAtB18
import Derived.Test.YtbgadbokejaomaaGreatDoorRewriteAtB15
namespace Go.Proofs.YtbgadbokejaomaaGreatDoor
open Go.RowKit
open Gf (ci nat)
set_option linter.unusedVariables false

def ks5 : List Nat := [0, 1, 2, 3, 4]
theorem ks5_get (j : Nat) (h : j < 5) : ks5.getD j 0 = j := by
  match j, h with
  | 0, _ => rfl
  | 1, _ => rfl
  | 2, _ => rfl
  | 3, _ => rfl
  | 4, _ => rfl
/-- The pieces of a text, as numbers. -/
def pcN (S : ByteArray) : List (List Nat) := (mulM (codeM 3 2) (datM S)).map nat
theorem pcN_row {S : ByteArray} (h : S.size ≤ 47) (i : Nat) (hi : i < 5) : ∃ X : List Nat, (mulM (codeM 3 2) (datM S)).getD i [] = ci X ∧ X.length = 16 ∧ ∀ x ∈ X, x < 256 := by
  refine ⟨_, mulM_get _ _ i (by rw [codeM_length]; omega), ?_, ?_⟩
  · rw [mulRow_length, datM_get S 0 (by omega), Gf.ci_length, rowN_length h 0 (by omega)]
  · have := mulRow_lt (b := (datM S).map nat) (l := ((datM S).getD 0 []).length) (r := nat ((codeM 3 2).getD i [])) (Gf.nat_lt (codeM_rows 3 2 i (by rw [codeM_length]; omega)).2) ((codeM 3 2).getD i []).length
    intro x hx
    obtain ⟨j, hj, rfl⟩ := List.getElem_of_mem hx
    have h2 := this j
    rw [List.getD_eq_getElem?_getD, List.getElem?_eq_getElem hj, Option.getD_some] at h2
    exact h2
theorem nat_ci' (l : List Nat) : nat (ci l) = l := by simp [nat, ci, Function.comp_def]
theorem pcN_length (S : ByteArray) : (pcN S).length = 5 := by unfold pcN; rw [List.length_map, mulM_length, codeM_length]
theorem pcN_get {S : ByteArray} (i : Nat) (hi : i < 5) : (pcN S).getD i [] = nat ((mulM (codeM 3 2) (datM S)).getD i []) := by
  unfold pcN
  simp only [List.getD_eq_getElem?_getD]
  rw [List.getElem?_map, List.getElem?_eq_getElem (by rw [mulM_length, codeM_length]; omega)]
  rfl
theorem pcN_ok {S : ByteArray} (h : S.size ≤ 47) : ∀ i, i < 5 → ((pcN S).getD i []).length = 16 ∧ ∀ x ∈ (pcN S).getD i [], x < 256 := by
  intro i hi
  obtain ⟨X, e, h1, h2⟩ := pcN_row h i hi
  rw [pcN_get i hi, e, nat_ci']
  exact ⟨h1, h2⟩
theorem pcN_ci {S : ByteArray} (h : S.size ≤ 47) : (pcN S).map ci = mulM (codeM 3 2) (datM S) := by
  apply List.ext_getElem
  · rw [List.length_map, pcN_length, mulM_length, codeM_length]
  · intro i h1 h2
    have hi : i < 5 := by rw [List.length_map, pcN_length] at h1; exact h1
    obtain ⟨X, e, _, _⟩ := pcN_row h i hi
    have e1 := pcN_get (S := S) i hi
    rw [e, nat_ci'] at e1
    rw [List.getElem_map]
    rw [List.getD_eq_getElem?_getD, List.getElem?_eq_getElem h2, Option.getD_some] at e
    rw [List.getD_eq_getElem?_getD, List.getElem?_eq_getElem (by rw [pcN_length]; exact hi), Option.getD_some] at e1
    rw [e1, e]
def wsOk (P H : List ByteArray) (B : List Bool) (A E : Int) (S : ByteArray) : Prop := S.size ≤ 47 ∧ (gkP P H B ∧ ftP P A) ∧ wOk B A.toNat E ks5 5
def wsH (H : List ByteArray) (A E : Int) (S : ByteArray) : List ByteArray := wrTo H A.toNat E (pcN S) ks5 5

set_option linter.unusedSimpArgs false in
set_option maxRecDepth 100000 in
set_option maxHeartbeats 3200000 in
theorem writeStripe_calls (p h b : Value) (P H : List ByteArray) (B : List Bool) (A E : Int) (S : ByteArray) (ok : Bool) (w : World) (hT : Gf.Tab w) (hok : ok = true ↔ wsOk P H B A E S) (hwf : (Lit.int .i64 A).wf = true) (hS : S.size ≤ maxLen) (hp : RdT w p P) (hh : RdT w h H) (hb : RdZ w b B) :
    Calls Tryz.prog 49 #[.agg #[p, h, b], .int .i64 A, .int .i64 E, .string S] w fun e w' => ∃ p' h' b', e = .returned (.tuple #[.agg #[p', h', b'], .bool ok]) ∧ DskV w' w.heap.size w'.heap.size p' h' b' (ifT ok P) (ifT ok (wsH H A E S)) (ifT ok B) ∧ Below w.heap.size w w' := by
  have RP := hide hp
  have RH := hide hh
  have RB := hide hb
  have T := hide hT
  have HOK := hide hok
  obtain ⟨f, hf⟩ := ft_bool P H B A
  have HF := hide hf
  have C1 := hide (fun W h => piecesFor_calls S W h hS)
  have C2 := hide (fun W h1 h2 h3 => liesOn_calls p h b P H B A f W hf hwf h1 h2 h3)
  have A0 : Hid (Hand w ((w.alloc (.cells #[p, h, b] 26)).alloc (.cells nil3 26)) [TBox (w.heap.size + 1) nil3 26, TBox w.heap.size #[p, h, b] 26]) := by
    show Hand _ _ _
    have := ((Hand.start w).box #[p, h, b] 26).box nil3 26
    simpa using this
  clear hp hh hb hT hok hf hwf
  by_cases h47 : S.size ≤ 47
  case neg =>
    have okf : ok = false := by
      cases ok with
      | false => rfl
      | true => exact absurd (HOK.out.1 rfl).1 h47
    subst okf
    have e : pfR S = ([], false) := if_neg h47
    rw [e] at C1
    clear e
    go_enter Tryz.func49, Tryz.ntmps49
    go_wp2_with fail
    refine (C1.out _ (Gf.Tab.below T.out A0.out.below)).mono ?_
    rintro e w1 ⟨v1, rfl, m1, q⟩
    have A1 := hide (A0.out.step q)
    clear q A0 m1
    obtain ⟨d0, d1, d2⟩ := (A1.out.atBox 0 rfl).c3
    have g0 := (A1.out.atBox 0 rfl).frozen 0
    have g1 := (A1.out.atBox 0 rfl).frozen 1
    have g2 := (A1.out.atBox 0 rfl).frozen 2
    have AZ := hide (A1.out.store3 0 rfl (.slice none 0 0) (.slice none 0 0) (.slice none 0 0))
    go_wp2
    exact bodyPost_ret (res_dsk2 rfl _ _ (w.heap.size + 1) _ _ _ (0, 0) rfl (AZ.out.atBox 0 rfl)) rfl ⟨_, _, _, rfl, DskV.nil _ _ _, AZ.out.below⟩
  have e : pfR S = (mulM (codeM 3 2) (datM S), true) := if_pos h47
  rw [e] at C1
  clear e
  cases f with
  | false =>
    have okf : ok = false := by
      cases ok with
      | false => rfl
      | true => have := HF.out.2 (HOK.out.1 rfl).2.1; simp at this
    subst okf
    go_enter Tryz.func49, Tryz.ntmps49
    go_wp2_with fail
    refine (C1.out _ (Gf.Tab.below T.out A0.out.below)).mono ?_
    rintro e w1 ⟨v1, rfl, m1, q⟩
    have A1 := hide (A0.out.step q)
    clear q A0 m1
    obtain ⟨c0, c1, c2⟩ := (A1.out.atBox 1 rfl).c3
    go_wp2_with fail
    refine (C2.out _ (RP.out.below A1.out.below) (RH.out.below A1.out.below) (RB.out.below A1.out.below)).mono ?_
    rintro e w2 ⟨rfl, q⟩
    have A2 := hide (A1.out.step q)
    clear q A1 c0 c1 c2
    obtain ⟨d0, d1, d2⟩ := (A2.out.atBox 0 rfl).c3
    have g0 := (A2.out.atBox 0 rfl).frozen 0
    have g1 := (A2.out.atBox 0 rfl).frozen 1
    have g2 := (A2.out.atBox 0 rfl).frozen 2
    have AZ := hide (A2.out.store3 0 rfl (.slice none 0 0) (.slice none 0 0) (.slice none 0 0))
    go_wp2
    exact bodyPost_ret (res_dsk2 rfl _ _ (w.heap.size + 1) _ _ _ (0, 0) rfl (AZ.out.atBox 0 rfl)) rfl ⟨_, _, _, rfl, DskV.nil _ _ _, AZ.out.below⟩
  | true =>
  have GK := hide (HF.out.1 rfl).1
  have FT := hide (HF.out.1 rfl).2
  obtain ⟨a, rfl⟩ : ∃ a : Nat, A = (a : Int) := ⟨A.toNat, by have := FT.out.1; omega⟩
  have ha5 : a + 5 ≤ P.length := by have := FT.out.2; omega
  have OK3 : Hid (ok = true ↔ wOk B a E ks5 ks5.length) := by
    show _ ↔ wOk B a E ks5 5
    rw [HOK.out]
    unfold wsOk
    rw [Int.toNat_natCast]
    exact ⟨fun h => h.2.2, fun h => ⟨h47, HF.out.1 rfl, h⟩⟩
  have C3 := hide (fun W => countFrom_calls 0 5 W (by omega) (by omega))
  have e5 : cnt 0 5 = ci ks5 := by decide
  rw [e5] at C3
  have C4 := hide (fun W vm vk hm hk h1 h2 h3 => writePieces_calls p h b P H B a E vm (pcN S) vk ks5 ok W GK.out ha5 hm (pcN_length S) (pcN_ok h47) hk (by decide) (fun j hj => by rw [ks5_get j hj]; exact hj) OK3.out h1 h2 h3)
  have PC := hide (pcN_ci h47)
  have EH : Hid (wsH H (a : Int) E S = wrTo H a E (pcN S) ks5 ks5.length) := by show wrTo H (a : Int).toNat E (pcN S) ks5 5 = _; rw [Int.toNat_natCast]; rfl
  rw [EH.out]
  generalize ifT ok (wrTo H a E (pcN S) ks5 ks5.length) = Y at C4
  generalize ifT ok P = X at C4
  generalize ifT ok B = Z at C4
  clear e5 HOK HF FT EH
  go_enter Tryz.func49, Tryz.ntmps49
  go_wp2_with fail
  refine (C1.out _ (Gf.Tab.below T.out A0.out.below)).mono ?_
  rintro e w1 ⟨v1, rfl, m1, q⟩
  have A1 := hide (A0.out.step q)
  rw [← PC.out] at m1
  have R1 := hide m1.rd
  clear q A0 m1
  obtain ⟨c0, c1, c2⟩ := (A1.out.atBox 1 rfl).c3
  go_wp2_with fail
  refine (C2.out _ (RP.out.below A1.out.below) (RH.out.below A1.out.below) (RB.out.below A1.out.below)).mono ?_
  rintro e w2 ⟨rfl, q⟩
  have A2 := hide (A1.out.step q)
  have R2 := hide (R1.out.below q)
  clear q A1 c0 c1 c2 R1
  go_wp2
  refine wp_region_noPanic ?_
  refine wp_region_held_drew (S := fun w' => w'.cell? ⟨w.heap.size, 0, none⟩ = some p ∧ w'.cell? ⟨w.heap.size, 1, none⟩ = some h ∧ w'.cell? ⟨w.heap.size, 2, none⟩ = some b) (by kernel_rfl) (((A2.out.step (Below.refl _ _).drew).atBox 1 rfl).c3) (fun hHeld => ?_)
  have A3 := hide (A2.out.step (Below.refl _ _).drew)
  have R3 := hide (R2.out.below (Below.refl _ _).drew)
  clear A2 R2
  generalize w2.drew = V0 at *
  refine wpAnyH_take (i := 0) (v := ?v1) rfl (by kernel_rfl) (by kernel_rfl) (by kernel_rfl) (fun _ _ _ h => h) (Or.inl ⟨by rfl, ?hy1⟩) (by assumption) ?rest1
  case hy1 => (intro w' hSw; dsimp only [List.getElem_toArray, List.getElem_cons_zero, List.getElem_cons_succ] at hSw ⊢; go_simp; try (with_reducible rfl))
  try simp only [Act.put, List.getElem_toArray, List.getElem_cons_zero, List.getElem_cons_succ, List.setIfInBounds_toArray, List.set_cons_zero, List.set_cons_succ]
  refine wpAnyH_take (i := 1) (v := ?v2) rfl (by kernel_rfl) (by kernel_rfl) (by kernel_rfl) (fun _ _ _ h => h) (Or.inl ⟨by rfl, ?hy2⟩) (by assumption) ?rest2
  case hy2 => (intro w' hSw; dsimp only [List.getElem_toArray, List.getElem_cons_zero, List.getElem_cons_succ] at hSw ⊢; go_simp; try (with_reducible rfl))
  try simp only [Act.put, List.getElem_toArray, List.getElem_cons_zero, List.getElem_cons_succ, List.setIfInBounds_toArray, List.set_cons_zero, List.set_cons_succ]
  refine wpAnyH_take (i := 2) (v := ?v3) rfl (by kernel_rfl) (by kernel_rfl) (by kernel_rfl) (fun _ _ _ h => h) (Or.inl ⟨by rfl, ?hy3⟩) (by assumption) ?rest3
  case hy3 => (intro w' hSw; dsimp only [List.getElem_toArray, List.getElem_cons_zero, List.getElem_cons_succ] at hSw ⊢; go_simp; try (with_reducible rfl))
  try simp only [Act.put, List.getElem_toArray, List.getElem_cons_zero, List.getElem_cons_succ, List.setIfInBounds_toArray, List.set_cons_zero, List.set_cons_succ]
  refine wpAnyH_take (i := 3) (v := ?v4) rfl (by kernel_rfl) (by kernel_rfl) (by kernel_rfl) (fun _ _ _ h => h) (Or.inl ⟨by rfl, ?hy4⟩) (by assumption) ?rest4
  case hy4 => (intro w' hSw; dsimp only [List.getElem_toArray, List.getElem_cons_zero, List.getElem_cons_succ] at hSw ⊢; go_simp; try (with_reducible rfl))
  try simp only [Act.put, List.getElem_toArray, List.getElem_cons_zero, List.getElem_cons_succ, List.setIfInBounds_toArray, List.set_cons_zero, List.set_cons_succ]
  refine wpAnyH_ready (rs := [4]) (by kernel_rfl) (by simp) ?_
  refine AllReadyH.cons rfl (fun K hK => ?_) AllReadyH.nil
  dsimp only [List.getElem_toArray, List.getElem_cons_zero, List.getElem_cons_succ]
  go_simp
  refine (C3.out _).mono ?_
  rintro e' V1 ⟨vk, rfl, ok1, q⟩
  have A4 := hide (A3.out.step q)
  have R4 := hide (R3.out.below q)
  have K4 := hide (Own.rd ok1)
  clear q ok1 hHeld A3 R3
  refine hK.out _ _ ((A4.out.atBox 1 rfl).c3) (fun hHeld => ?_)
  clear hK K
  try simp only [Act.put, List.getElem_toArray, List.getElem_cons_zero, List.getElem_cons_succ, List.setIfInBounds_toArray, List.set_cons_zero, List.set_cons_succ]
  refine wpAnyH_ready (rs := [5]) (by kernel_rfl) (by simp) ?_
  refine AllReadyH.cons rfl (fun K hK => ?_) AllReadyH.nil
  dsimp only [List.getElem_toArray, List.getElem_cons_zero, List.getElem_cons_succ]
  go_simp
  refine (C4.out _ _ _ R4.out K4.out (RP.out.below A4.out.below) (RH.out.below A4.out.below) (RB.out.below A4.out.below)).mono ?_
  rintro e' V2 ⟨p5, h5, b5, rfl, d5, q⟩
  obtain ⟨ap, cp, ah, ch, ab, cb, rfl, rfl, rfl⟩ := d5.sl
  have A5 := hide (A4.out.add q (TDsk.st _ _ _ _ _ _) d5)
  clear q d5 hHeld A4 R4 K4
  refine hK.out _ _ ((A5.out.atBox 2 rfl).c3) (fun hHeld => ?_)
  clear hK K
  try simp only [Act.put, List.getElem_toArray, List.getElem_cons_zero, List.getElem_cons_succ, List.setIfInBounds_toArray, List.set_cons_zero, List.set_cons_succ]
  refine wpAnyH_take (i := 6) (v := ?v5) rfl (by kernel_rfl) (by kernel_rfl) (by kernel_rfl) (fun _ _ _ h => h) (Or.inl ⟨by rfl, ?hy5⟩) (by assumption) ?rest5
  case hy5 => (intro w' hSw; dsimp only [List.getElem_toArray, List.getElem_cons_zero, List.getElem_cons_succ] at hSw ⊢; go_simp; try (with_reducible rfl))
  try simp only [Act.put, List.getElem_toArray, List.getElem_cons_zero, List.getElem_cons_succ, List.setIfInBounds_toArray, List.set_cons_zero, List.set_cons_succ]
  refine wpAnyH_take (i := 7) (v := ?v6) rfl (by kernel_rfl) (by kernel_rfl) (by kernel_rfl) (fun _ _ _ h => h) (Or.inl ⟨by rfl, ?hy6⟩) (by assumption) ?rest6
  case hy6 => (intro w' hSw; dsimp only [List.getElem_toArray, List.getElem_cons_zero, List.getElem_cons_succ] at hSw ⊢; go_simp; try (with_reducible rfl))
  try simp only [Act.put, List.getElem_toArray, List.getElem_cons_zero, List.getElem_cons_succ, List.setIfInBounds_toArray, List.set_cons_zero, List.set_cons_succ]
  refine wpAnyH_ready (rs := [8]) (by kernel_rfl) (by simp) ?_
  refine AllReadyH.cons rfl (fun K hK => ?_) AllReadyH.nil
  have xr := A5.out.atBox 1 rfl
  obtain ⟨d0, d1, d2⟩ := xr.c3
  have g0 := xr.frozen 0
  have g1 := xr.frozen 1
  have g2 := xr.frozen 2
  have AZ := hide (A5.out.store3 1 rfl (.slice ap X.length cp) (.slice ah Y.length ch) (.slice ab Z.length cb))
  clear xr hHeld
  dsimp only [List.getElem_toArray, List.getElem_cons_zero, List.getElem_cons_succ]
  go_simp
  clear d0 d1 d2 g0 g1 g2
  refine hK.out _ _ ((AZ.out.atBox 2 rfl).c3) (fun hHeld => ?_)
  clear hK K
  try simp only [Act.put, List.getElem_toArray, List.getElem_cons_zero, List.getElem_cons_succ, List.setIfInBounds_toArray, List.set_cons_zero, List.set_cons_succ]
  refine wpAnyH_ready (rs := [9]) (by kernel_rfl) (by simp) ?_
  refine AllReadyH.cons rfl (fun K hK => ?_) AllReadyH.nil
  dsimp only [List.getElem_toArray, List.getElem_cons_zero, List.getElem_cons_succ]
  go_simp
  refine hK.out _ _ ((AZ.out.atBox 2 rfl).c3) (fun hHeld => ?_)
  clear hK K
  try simp only [Act.put, List.getElem_toArray, List.getElem_cons_zero, List.getElem_cons_succ, List.setIfInBounds_toArray, List.set_cons_zero, List.set_cons_succ]
  refine wpAnyH_done (by kernel_rfl) ?_ _
  refine NoPanic.normal ?_
  clear hHeld
  go_wp2
  obtain ⟨lo, hi, d3, lw, hw3, _⟩ := AZ.out.open 0 rfl
  have D3 : DskV _ lo hi (.slice ap X.length cp) (.slice ah Y.length ch) (.slice ab Z.length cb) X Y Z := d3
  exact bodyPost_ret (res_dsk2 rfl _ _ (w.heap.size + 1) _ _ _ (0, 0) rfl (AZ.out.atBox 1 rfl)) rfl ⟨_, _, _, rfl, D3.wider lw hw3, AZ.out.below⟩
end Go.Proofs.YtbgadbokejaomaaGreatDoor

namespace Go.Proofs.YtbgadbokejaomaaGreatDoor
open Go.RowKit
open Gf (ci nat)
set_option linter.unusedVariables false

theorem sc_frB {A : Nat} {E : Int} {row : List Nat} (hA : A ≤ 24) (hE : 0 ≤ E ∧ E ≤ 60000) (hr : row.length = 16) : ofN (frB 2 A E.toNat (bs (ofN row))) = scT A E row := by
  have hg : goodF 2 (A : Int) E (ofN row).size := ⟨⟨by omega, by omega, by omega⟩, hE, by rw [ofN_size]; omega⟩
  have e : frR 2 (A : Int) E (ofN row) = (ofN (frB (2 : Int).toNat (A : Int).toNat E.toNat (bs (ofN row))), true) := if_pos hg
  unfold scT
  rw [e]
  rfl
theorem st_put {P H : List ByteArray} {B : List Bool} {n a : Nat} {T : ByteArray} {y : Bool} (ha : a < n) (hT : T.size = 28) (hy : y = true ↔ B.getD a false = false) : y = true ↔ stOk P H B n 1 ((a : Nat) : Int) T [] := by
  rw [hy]
  unfold stOk hoOk
  simp only [Int.toNat_natCast]
  constructor
  · intro h1
    exact .inl ⟨by trivial, by trivial, ⟨by omega, by omega⟩, h1, by rw [hT]; omega, by rw [hT]; omega⟩
  · rintro (⟨_, _, _, h1, _⟩ | ⟨h0, _⟩ | ⟨h0, _⟩ | ⟨h0, _⟩ | ⟨h0, _⟩ | ⟨h0, _⟩)
    · exact h1
    all_goals (exact absurd h0 (by decide))

set_option maxRecDepth 100000 in
set_option maxHeartbeats 3200000 in
theorem l8Put_calls (p h b : Value) (P H : List ByteArray) (B : List Bool) (a : Nat) (E : Int) (u : Value) (row : List Nat) (lo hi n : Nat) (y : Bool) (w : World) (d : DskV w lo hi p h b P H B) (hhi : hi ≤ w.heap.size) (hP : P.length = n) (hH : H.length = n) (hB : B.length = n) (hn : 0 < n ∧ n ≤ 24) (ha : a < n)
    (hE : 0 ≤ E ∧ E ≤ 60000) (hu : Rd w u (ci row)) (hr : row.length = 16) (hl : ∀ x ∈ row, x < 256) (hy : y = true ↔ B.getD a false = false) (h28 : ∀ i, i < P.length → (P.getD i ⟨#[]⟩).size ≤ 28) :
    Calls Tryz.prog 96 #[.agg #[p, h, b], .int .i64 (a : Int), .int .i64 E, u] w fun e w' => e = .returned (.tuple #[.agg #[p, h, b], .bool y]) ∧ (y = true → DskV w' lo hi p h b P (H.set a (scT a E row)) B) ∧ Chg lo hi w w' := by
  obtain ⟨En, hEn⟩ : ∃ En : Nat, E = (En : Int) := ⟨E.toNat, by omega⟩
  have SC := hide (sc_frB (A := a) (row := row) (by omega) hE hr)
  have G2 := hide (sc_good (A := a) (row := row) (by omega) hE hr).2
  have C1 := hide (fun W hv => l8Text_calls u row W hv hl (by omega))
  have C2 := hide (fun W => l6Frame_calls 2 a E.toNat (ofN row) W (by omega) (by omega) (by omega) (by rw [ofN_size]; omega))
  rw [SC.out] at C2
  subst hEn
  rw [Int.toNat_natCast] at C2
  have HY := hide (st_put (P := P) (H := H) (B := B) ha G2.out hy)
  generalize scT a (En : Int) row = T at *
  generalize ofN row = bo at *
  have U := hide hu
  obtain ⟨W0, hW⟩ : ∃ W0, W0 = (w.alloc (.cells #[p, h, b] 26)).alloc (.cells #[.slice none 0 0, .slice none 0 0, .slice none 0 0] 26) := ⟨_, rfl⟩
  have b0 : Below w.heap.size w W0 := by rw [hW]; exact (below_box _ _).trans ((below_box _ _).mono (by simp))
  have x0 : BoxAt W0 w.heap.size #[p, h, b] 26 := by rw [hW]; exact (BoxAt.new _ _ _).below (below_box _ _)
  have x1 : BoxAt W0 (w.heap.size + 1) #[.slice none 0 0, .slice none 0 0, .slice none 0 0] 26 := by
    rw [hW]
    have := BoxAt.new (w.alloc (.cells #[p, h, b] 26)) #[.slice none 0 0, .slice none 0 0, .slice none 0 0] 26
    simpa using this
  have HW := hide hW
  have B0 := hide b0
  have X0 := hide x0
  have X1 := hide x1
  have D0 := hide (d.below b0)
  have hs0 : w.heap.size + 1 < W0.heap.size := x1.lt
  obtain ⟨ap, cp, ah, ch, ab, cb, rfl, rfl, rfl⟩ := d.sl
  have HPl := hide hP
  have HHl := hide hH
  have HBl := hide hB
  clear hW b0 x0 x1 d hu SC hy hl hP hH hB
  go_enter Tryz.func96, Tryz.ntmps96
  go_wp2_with fail
  rw [← HW.out]
  refine (C1.out _ (U.out.below B0.out)).mono ?_
  rintro e w1 ⟨rfl, q⟩
  have B1 := hide (B0.out.trans (q.mono B0.out.size))
  have X01 := hide (X0.out.below q)
  have X11 := hide (X1.out.below q)
  have D1 := hide (D0.out.below q)
  clear q X0 X1 D0 B0
  go_wp2_with fail
  refine (C2.out _).mono ?_
  rintro e w2 ⟨rfl, q⟩
  have B2 := hide (B1.out.trans (q.mono B1.out.size))
  have X02 := hide (X01.out.below q)
  have X12 := hide (X11.out.below q)
  have D2 := hide (D1.out.below q)
  clear q X01 X11 D1 B1
  obtain ⟨c0, c1, c2⟩ := X02.out.c3
  have C3 := hide (l7Step_calls _ _ _ (.slice none 0 0) P H B 1 ((a : Nat) : Int) T [] lo hi n y w2 D2.out (Nat.le_trans hhi B2.out.size) HPl.out HHl.out HBl.out hn (fun _ _ => rd_nil' _) HY.out (by rw [G2.out]; omega) h28)
  go_wp2_with fail
  refine C3.out.mono ?_
  rintro e w3 ⟨rfl, sp1, sp2⟩
  have SP1 := hide sp1
  have SP2 := hide sp2
  have X13 := hide (X12.out.chg sp2 (by omega))
  obtain ⟨d0, d1, d2⟩ := X13.out.c3
  have g0 := X13.out.frozen 0
  have g1 := X13.out.frozen 1
  have g2 := X13.out.frozen 2
  clear sp1 sp2 c0 c1 c2
  have XZ := hide (X13.out.store3 (.slice ap P.length cp) (.slice ah H.length ch) (.slice ab B.length cb))
  have CZ : Hid (Chg (w.heap.size + 1) (w.heap.size + 2) w3 (((w3.setCell ⟨w.heap.size + 1, 0, none⟩ (.slice ap P.length cp)).setCell ⟨w.heap.size + 1, 1, none⟩ (.slice ah H.length ch)).setCell ⟨w.heap.size + 1, 2, none⟩ (.slice ab B.length cb))) := Chg.store3 _ _ _ _ _ (Nat.le_refl _) (by omega)
  go_wp2
  refine bodyPost_ret (res_dsk2 rfl _ _ (w.heap.size + 1) _ _ _ (0, 0) rfl XZ.out) rfl ⟨rfl, fun e => ?_, ?_⟩
  · have d4 := SP1.out e
    have e1 : stP P H n 1 ((a : Nat) : Int) T [] = P := by unfold stP; rw [if_neg (by decide), if_neg (by decide), if_neg (by decide), if_neg (by decide)]
    have e2 : stH H 1 ((a : Nat) : Int) T = H.set a T := by unfold stH; rw [if_pos rfl, Int.toNat_natCast]
    have e3 : stB B 1 ((a : Nat) : Int) = B := by unfold stB; rw [if_neg (by decide), if_neg (by decide)]
    rw [e1, e2, e3] at d4
    exact d4.chg CZ.out (.inl (by omega))
  · exact chg_new ((Chg.ofBelow B2.out).trans SP2.out) CZ.out (by omega)
end Go.Proofs.YtbgadbokejaomaaGreatDoor

namespace Go.Proofs.YtbgadbokejaomaaGreatDoor
open Go.RowKit
open Gf (ci nat)
set_option linter.unusedVariables false

/-- Rows of the call's own, held. -/
def TMat (v : Value) (m : List (List Int)) : Tg := fun lo hi w => Mat w lo hi v m
theorem TMat.st (v : Value) (m : List (List Int)) : (TMat v m).st := fun lo hi a b w w' h hc hd => by
  obtain ⟨vs, hv⟩ := h
  exact ⟨vs, hv.chg hc hd⟩

set_option maxRecDepth 100000 in
set_option maxHeartbeats 6400000 in
theorem sWriteStripe_calls (p h b : Value) (P H : List ByteArray) (B : List Bool) (A E : Int) (S : ByteArray) (ok : Bool) (w : World) (hok : ok = true ↔ wsOk P H B A E S) (hwf : (Lit.int .i64 A).wf = true) (hS : S.size ≤ maxLen) (hp : RdT w p P) (hh : RdT w h H) (hb : RdZ w b B) :
    Calls Tryz.prog 47 #[.agg #[p, h, b], .int .i64 A, .int .i64 E, .string S] w fun e w' => ∃ p' h' b', e = .returned (.tuple #[.agg #[p', h', b'], .bool ok]) ∧ DskV w' w.heap.size w'.heap.size p' h' b' (ifT ok P) (ifT ok (wsH H A E S)) (ifT ok B) ∧ Below w.heap.size w w' := by
  unfold maxLen at hS
  have RP := hide hp
  have RH := hide hh
  have RB := hide hb
  have HOK := hide hok
  obtain ⟨g, hg⟩ := gk_bool' P H B
  have HG := hide hg
  have C1 := hide (fun W h1 h2 h3 => sGoodDisk_calls p h b P H B g W hg h1 h2 h3)
  have A0 : Hid (Hand w ((w.alloc (.cells #[p, h, b] 26)).alloc (.cells nil3 26)) [TBox (w.heap.size + 1) nil3 26, TBox w.heap.size #[p, h, b] 26]) := by
    show Hand _ _ _
    have := ((Hand.start w).box #[p, h, b] 26).box nil3 26
    simpa using this
  obtain ⟨ap, cp, rfl, mp, _⟩ := hp.sl
  obtain ⟨ah, ch, rfl, mh, _⟩ := hh.sl
  obtain ⟨ab, cb, rfl, mb, _⟩ := hb.sl
  have FALSE : Hid (¬ wsOk P H B A E S → ok = false) := fun h => by
    cases ok with
    | false => rfl
    | true => exact absurd (HOK.out.1 rfl) h
  clear hp hh hb hok hg mp mh mb hwf
  cases g with
  | false =>
    obtain rfl := FALSE.out (fun h' => by have := HG.out.2 h'.2.1.1; simp at this)
    obtain ⟨c0, c1, c2⟩ := (A0.out.atBox 1 rfl).c3
    go_enter Tryz.func47, Tryz.ntmps47
    go_wp2_with fail
    refine (C1.out _ (RP.out.below A0.out.below) (RH.out.below A0.out.below) (RB.out.below A0.out.below)).mono ?_
    rintro e w1 ⟨rfl, q⟩
    have A1 := hide (A0.out.step q)
    clear q A0
    obtain ⟨d0, d1, d2⟩ := (A1.out.atBox 0 rfl).c3
    have g0 := (A1.out.atBox 0 rfl).frozen 0
    have g1 := (A1.out.atBox 0 rfl).frozen 1
    have g2 := (A1.out.atBox 0 rfl).frozen 2
    have AZ := hide (A1.out.store3 0 rfl (.slice none 0 0) (.slice none 0 0) (.slice none 0 0))
    go_wp2
    exact bodyPost_ret (res_dsk2 rfl _ _ (w.heap.size + 1) _ _ _ (0, 0) rfl (AZ.out.atBox 0 rfl)) rfl ⟨_, _, _, rfl, DskV.nil _ _ _, AZ.out.below⟩
  | true =>
  have GK := hide (HG.out.1 rfl)
  have n24 : P.length ≤ 24 := GK.out.1.2
  obtain ⟨f, hf⟩ : ∃ f : Bool, f = true ↔ ftP P A := by
    by_cases hx : ftP P A
    · exact ⟨true, by simp [hx]⟩
    · exact ⟨false, by simp [hx]⟩
  have C2 := hide (fun W x y z t => l8Fits_calls x y z t P A f W hf n24)
  have HF := hide hf
  clear hf
  obtain ⟨c0, c1, c2⟩ := (A0.out.atBox 1 rfl).c3
  cases f with
  | false =>
    obtain rfl := FALSE.out (fun h' => by have := HF.out.2 h'.2.1.2; simp at this)
    go_enter Tryz.func47, Tryz.ntmps47
    go_wp2_with fail
    refine (C1.out _ (RP.out.below A0.out.below) (RH.out.below A0.out.below) (RB.out.below A0.out.below)).mono ?_
    rintro e w1 ⟨rfl, q⟩
    have A1 := hide (A0.out.step q)
    clear q A0
    obtain ⟨c0, c1, c2⟩ := (A1.out.atBox 1 rfl).c3
    go_wp2_with fail
    refine (C2.out _ _ _ _ _).mono ?_
    rintro e w2 ⟨rfl, q⟩
    have A2 := hide (A1.out.step q)
    clear q A1 c0 c1 c2
    obtain ⟨d0, d1, d2⟩ := (A2.out.atBox 0 rfl).c3
    have g0 := (A2.out.atBox 0 rfl).frozen 0
    have g1 := (A2.out.atBox 0 rfl).frozen 1
    have g2 := (A2.out.atBox 0 rfl).frozen 2
    have AZ := hide (A2.out.store3 0 rfl (.slice none 0 0) (.slice none 0 0) (.slice none 0 0))
    go_wp2
    exact bodyPost_ret (res_dsk2 rfl _ _ (w.heap.size + 1) _ _ _ (0, 0) rfl (AZ.out.atBox 0 rfl)) rfl ⟨_, _, _, rfl, DskV.nil _ _ _, AZ.out.below⟩
  | true =>
  have FT := hide (HF.out.1 rfl)
  by_cases hE : 0 ≤ E ∧ E ≤ 60000
  case neg =>
    obtain rfl := FALSE.out (fun h' => hE (h'.2.2 0 (by omega)).1)
    go_enter Tryz.func47, Tryz.ntmps47
    go_wp2_with fail
    refine (C1.out _ (RP.out.below A0.out.below) (RH.out.below A0.out.below) (RB.out.below A0.out.below)).mono ?_
    rintro e w1 ⟨rfl, q⟩
    have A1 := hide (A0.out.step q)
    clear q A0
    obtain ⟨c0, c1, c2⟩ := (A1.out.atBox 1 rfl).c3
    go_wp2_with fail
    refine (C2.out _ _ _ _ _).mono ?_
    rintro e w2 ⟨rfl, q⟩
    have A2 := hide (A1.out.step q)
    clear q A1 c0 c1 c2
    go_wp2_with fail
    refine (l1In_no _ _ _ _ (by omega)).mono ?_
    rintro e w3 ⟨rfl, rfl⟩
    obtain ⟨d0, d1, d2⟩ := (A2.out.atBox 0 rfl).c3
    have g0 := (A2.out.atBox 0 rfl).frozen 0
    have g1 := (A2.out.atBox 0 rfl).frozen 1
    have g2 := (A2.out.atBox 0 rfl).frozen 2
    have AZ := hide (A2.out.store3 0 rfl (.slice none 0 0) (.slice none 0 0) (.slice none 0 0))
    go_wp2
    exact bodyPost_ret (res_dsk2 rfl _ _ (w.heap.size + 1) _ _ _ (0, 0) rfl (AZ.out.atBox 0 rfl)) rfl ⟨_, _, _, rfl, DskV.nil _ _ _, AZ.out.below⟩
  by_cases h47 : S.size ≤ 47
  case neg =>
    obtain rfl := FALSE.out (fun h' => h47 h'.1)
    have h' : (47 : Int) < (S.size : Int) := by omega
    go_enter Tryz.func47, Tryz.ntmps47
    go_wp2_with fail
    refine (C1.out _ (RP.out.below A0.out.below) (RH.out.below A0.out.below) (RB.out.below A0.out.below)).mono ?_
    rintro e w1 ⟨rfl, q⟩
    have A1 := hide (A0.out.step q)
    clear q A0
    obtain ⟨c0, c1, c2⟩ := (A1.out.atBox 1 rfl).c3
    go_wp2_with fail
    refine (C2.out _ _ _ _ _).mono ?_
    rintro e w2 ⟨rfl, q⟩
    have A2 := hide (A1.out.step q)
    clear q A1 c0 c1 c2
    go_wp2_with fail
    refine (l1In_yes _ _ _ _ (by omega) (by omega)).mono ?_
    rintro e w3 ⟨rfl, rfl⟩
    obtain ⟨d0, d1, d2⟩ := (A2.out.atBox 0 rfl).c3
    have g0 := (A2.out.atBox 0 rfl).frozen 0
    have g1 := (A2.out.atBox 0 rfl).frozen 1
    have g2 := (A2.out.atBox 0 rfl).frozen 2
    have AZ := hide (A2.out.store3 0 rfl (.slice none 0 0) (.slice none 0 0) (.slice none 0 0))
    go_wp2
    exact bodyPost_ret (res_dsk2 rfl _ _ (w.heap.size + 1) _ _ _ (0, 0) rfl (AZ.out.atBox 0 rfl)) rfl ⟨_, _, _, rfl, DskV.nil _ _ _, AZ.out.below⟩
  obtain ⟨a, rfl⟩ : ∃ a : Nat, A = (a : Int) := ⟨A.toNat, by have := FT.out.1; omega⟩
  have ha5 : a + 5 ≤ P.length := by have := FT.out.2; omega
  have OK3 : Hid (ok = true ↔ wOk B a E ks5 5) := by
    show _ ↔ _
    rw [HOK.out]
    unfold wsOk
    rw [Int.toNat_natCast]
    exact ⟨fun h => h.2.2, fun h => ⟨h47, ⟨GK.out, FT.out⟩, h⟩⟩
  have C3 := hide (fun W h1 h2 h3 => l7Own_calls (.slice ap P.length cp) (.slice ah H.length ch) (.slice ab B.length cb) P H B W h1 h2 h3 ⟨by omega, n24⟩ (by rw [GK.out.2.1]; omega) (by rw [GK.out.2.2.1]; omega))
  have C4 := hide (fun W => l8Pieces_calls S W h47)
  have PC := hide (pcN_ci h47)
  have PO := hide (pcN_ok h47)
  have PL := hide (pcN_length S)
  have EH : Hid (wsH H (a : Int) E S = wrTo H a E (pcN S) ks5 5) := by show wrTo H (a : Int).toNat E (pcN S) ks5 5 = _; rw [Int.toNat_natCast]
  rw [EH.out]
  have S28 := hide GK.out.2.2.2.1
  have LH := hide GK.out.2.1
  have LB := hide GK.out.2.2.1
  generalize pcN S = m at *
  have h47' : ¬ (47 : Int) < (S.size : Int) := by omega
  have WL : Hid (∀ k, (wrTo H a E m ks5 k).length = P.length) := fun k => by rw [wrTo_length]; exact LH.out
  generalize hnp : P.length = np at *
  generalize hnh : H.length = nh at *
  generalize hnb : B.length = nb at *
  have NP := hide hnp
  have NB := hide hnb
  clear HOK HF FT EH FALSE HG hnp hnh hnb
  go_enter Tryz.func47, Tryz.ntmps47
  go_wp2_with fail
  refine (C1.out _ (RP.out.below A0.out.below) (RH.out.below A0.out.below) (RB.out.below A0.out.below)).mono ?_
  rintro e w1 ⟨rfl, q⟩
  have A1 := hide (A0.out.step q)
  clear q A0
  obtain ⟨c0, c1, c2⟩ := (A1.out.atBox 1 rfl).c3
  go_wp2_with fail
  refine (C2.out _ _ _ _ _).mono ?_
  rintro e w2 ⟨rfl, q⟩
  have A2 := hide (A1.out.step q)
  clear q A1 c0 c1 c2
  go_wp2_with fail
  refine (l1In_yes _ _ _ _ (by omega) (by omega)).mono ?_
  rintro e w3 ⟨rfl, rfl⟩
  obtain ⟨c0, c1, c2⟩ := (A2.out.atBox 1 rfl).c3
  go_wp2_with fail
  refine (C3.out _ (RP.out.below A2.out.below) (RH.out.below A2.out.below) (RB.out.below A2.out.below)).mono ?_
  rintro e w4 ⟨p4, h4, b4, rfl, d4, q⟩
  obtain ⟨ap4, cp4, ah4, ch4, ab4, cb4, e1, e2, e3⟩ := d4.sl
  rw [NP.out] at e1
  rw [show H.length = np by have := WL.out 0; exact this] at e2
  rw [NB.out, LB.out] at e3
  subst e1
  subst e2
  subst e3
  have A3 := hide ((A2.out.add q (TDsk.st _ _ _ _ _ _) d4).box #[.slice ap4 np cp4, .slice ah4 np ch4, .slice ab4 np cb4] 26)
  clear q d4 A2 c0 c1 c2
  obtain ⟨go, hgo⟩ : ∃ g, g = w4.heap.size := ⟨_, rfl⟩
  rw [← hgo] at A3
  have HGO := hide hgo
  clear hgo
  go_wp2_with fail
  refine (C4.out _).mono ?_
  rintro e w5 ⟨v5, rfl, m5, q⟩
  rw [← PC.out] at m5
  have A4 := hide (A3.out.add q (TMat.st v5 (m.map ci)) m5)
  have RM := m5.rd
  obtain ⟨am, cm, hvm, _⟩ := RM
  rw [List.length_map, PL.out] at hvm
  subst hvm
  clear q m5 A3
  go_wp2
  rw [← HGO.out]
  go_loopw [11, 12, 13, 14, 40] (fun _ _ _ _ vi wr => ∃ k : Nat, k ≤ 5 ∧ vi = .int .i64 k ∧ Hand w wr [TMat (.slice am 5 cm) (m.map ci), TBox go #[.slice ap4 np cp4, .slice ah4 np ch4, .slice ab4 np cb4] 26, TDsk (.slice ap4 np cp4) (.slice ah4 np ch4) (.slice ab4 np cb4) P (wrTo H a E m ks5 k) B, TBox (w.heap.size + 1) nil3 26, TBox w.heap.size #[.slice ap np cp, .slice ah nh ch, .slice ab nb cb] 26] ∧ wOk B a E ks5 k) (fun _ _ _ _ vi _ => 5 - (intOf vi).toNat)
  case atStart => exact ⟨0, Nat.zero_le _, rfl, A4.out, fun j hj => by omega⟩
  case round =>
    clear A4
    obtain ⟨k, hk, rfl, hH, hw⟩ := hrel
    have AH := hide hH
    have WO := hide hw
    clear hH hw
    by_cases hlt : k < 5
    · have hlt' : (k : Int) < 5 := by omega
      obtain ⟨y1, y2, mm⟩ := AH.out.get 0 rfl
      obtain ⟨mb, mo, u, hma, _, hmc, hu⟩ := mm.rd.rowAt k (by rw [List.length_map, PL.out]; exact hlt)
      subst hma
      obtain ⟨r1, r2⟩ := PO.out k hlt
      have hmg : (m.map ci).getD k [] = ci (m.getD k []) := by
        simp only [List.getD_eq_getElem?_getD]
        rw [List.getElem?_map, List.getElem?_eq_getElem (by rw [PL.out]; exact hlt)]
        rfl
      rw [hmg] at hu
      have U := hide hu
      obtain ⟨ua, uc, hu2, _⟩ := hu
      rw [Gf.ci_length, r1] at hu2
      subst hu2
      have WS : Hid (wrTo H a E m ks5 (k + 1) = (wrTo H a E m ks5 k).set (a + k) (scT (a + k) E (m.getD k []))) := by
        show (wrTo H a E m ks5 k).set (a + ks5.getD k 0) (scT (a + ks5.getD k 0) E (m.getD (ks5.getD k 0) [])) = _
        rw [ks5_get k hlt]
      have WK : Hid (∀ hh : B.getD (a + k) false = false, wOk B a E ks5 (k + 1)) := fun hh j hj => by
        by_cases e : j = k
        · subst e
          rw [ks5_get j hlt]
          exact ⟨hE, hh⟩
        · exact WO.out j (by omega)
      have WN : Hid (ok = true → B.getD (a + k) false = false) := fun e => by
        have := (OK3.out.1 e k hlt).2
        rw [ks5_get k hlt] at this
        exact this
      have LW := hide (WL.out k)
      obtain ⟨c0, c1, c2⟩ := (AH.out.atBox 1 rfl).c3
      obtain ⟨lo, hi, d3, lw, hw3, put⟩ := AH.out.open 2 rfl
      have D3 : Hid (DskV wr lo hi (.slice ap4 np cp4) (.slice ah4 np ch4) (.slice ab4 np cb4) P (wrTo H a E m ks5 k) B) := d3
      have PUT := hide put
      obtain ⟨y, hy⟩ : ∃ y : Bool, y = true ↔ B.getD (a + k) false = false := by
        cases B.getD (a + k) false
        · exact ⟨true, by simp⟩
        · exact ⟨false, by simp⟩
      have E5 : Hid ((a : Int) + (k : Int) = ((a + k : Nat) : Int)) := by show _ = _; omega
      have C5 := hide (l8Put_calls (.slice ap4 np cp4) (.slice ah4 np ch4) (.slice ab4 np cb4) P (wrTo H a E m ks5 k) B (a + k) E (.slice ua 16 uc) (m.getD k []) lo hi np y wr D3.out hw3 NP.out LW.out (by rw [NB.out, LB.out]) ⟨by omega, by omega⟩ (by omega) hE U.out r1 r2 hy (fun i hi => S28.out i (by rw [← NP.out]; exact hi)))
      generalize wrTo H a E m ks5 k = Hk at *
      generalize scT (a + k) E (m.getD k []) = TT at *
      clear d3 put mm y1 y2 hmg r1 r2
      go_wp2_with fail
      rw [E5.out]
      refine C5.out.mono ?_
      rintro e w6 ⟨rfl, sp1, sp2⟩
      cases y with
      | true =>
        have A5 := hide ((PUT.out w6 (TDsk (.slice ap4 np cp4) (.slice ah4 np ch4) (.slice ab4 np cb4) P (Hk.set (a + k) TT) B) (TDsk.st _ _ _ _ _ _) (sp1 rfl) sp2).step (below_box w6 (.cells #[.slice ap4 np cp4, .slice ah4 np ch4, .slice ab4 np cb4] 26)))
        have WKK := hide (WK.out (hy.1 rfl))
        obtain ⟨x0, x1, x2⟩ := (BoxAt.new w6 #[.slice ap4 np cp4, .slice ah4 np ch4, .slice ab4 np cb4] 26).c3
        obtain ⟨d0, d1, d2⟩ := (A5.out.atBox 1 rfl).c3
        have g0 := (A5.out.atBox 1 rfl).frozen 0
        have g1 := (A5.out.atBox 1 rfl).frozen 1
        have g2 := (A5.out.atBox 1 rfl).frozen 2
        have AZ := hide (A5.out.store3 1 rfl (.slice ap4 np cp4) (.slice ah4 np ch4) (.slice ab4 np cb4))
        clear sp1 sp2 PUT D3 C5 AH c0 c1 c2 hw3 lw hy WK WN U A5 hmc
        go_wp2
        go_roundw
        case rel =>
          refine ⟨k + 1, by omega, by go_num, ?_, WKK.out⟩
          rw [WS.out]
          exact AZ.out
        case measure => simp [intOf]; omega
      | false =>
        have okf : ok = false := by
          cases ok with
          | false => rfl
          | true => have := hy.2 (WN.out rfl); simp at this
        subst okf
        have A5 := hide ((PUT.out w6 (fun _ _ _ => True) (fun _ _ _ _ _ _ _ _ _ => trivial) trivial sp2).step (below_box w6 (.cells #[.slice ap4 np cp4, .slice ah4 np ch4, .slice ab4 np cb4] 26)))
        clear sp1 sp2 PUT D3 C5 AH c0 c1 c2 hw3 lw hy WK WN U hmc
        obtain ⟨d0, d1, d2⟩ := (A5.out.atBox 3 rfl).c3
        have g0 := (A5.out.atBox 3 rfl).frozen 0
        have g1 := (A5.out.atBox 3 rfl).frozen 1
        have g2 := (A5.out.atBox 3 rfl).frozen 2
        have AZ := hide (A5.out.store3 3 rfl (.slice none 0 0) (.slice none 0 0) (.slice none 0 0))
        go_wp2
        exact bodyPost_ret (res_dsk2 rfl _ _ (w.heap.size + 1) _ _ _ (0, 0) rfl (AZ.out.atBox 3 rfl)) rfl ⟨_, _, _, rfl, DskV.nil _ _ _, AZ.out.below⟩
    · obtain rfl : k = 5 := by omega
      have okt : ok = true := OK3.out.2 WO.out
      subst okt
      obtain ⟨c0, c1, c2⟩ := (AH.out.atBox 1 rfl).c3
      obtain ⟨d0, d1, d2⟩ := (AH.out.atBox 3 rfl).c3
      have g0 := (AH.out.atBox 3 rfl).frozen 0
      have g1 := (AH.out.atBox 3 rfl).frozen 1
      have g2 := (AH.out.atBox 3 rfl).frozen 2
      have AZ := hide (AH.out.store3 3 rfl (.slice ap4 np cp4) (.slice ah4 np ch4) (.slice ab4 np cb4))
      go_wp2
      obtain ⟨lo, hi, d3, lw, hw3, _⟩ := AZ.out.open 2 rfl
      have D3 : DskV _ lo hi (.slice ap4 np cp4) (.slice ah4 np ch4) (.slice ab4 np cb4) P (wrTo H a E m ks5 5) B := d3
      exact bodyPost_ret (res_dsk2 rfl _ _ (w.heap.size + 1) _ _ _ (0, 0) rfl (AZ.out.atBox 3 rfl)) rfl ⟨_, _, _, rfl, D3.wider lw hw3, AZ.out.below⟩
end Go.Proofs.YtbgadbokejaomaaGreatDoor

namespace Go.Proofs.YtbgadbokejaomaaGreatDoor
open Go.RowKit
set_option linter.unusedVariables false
set_option linter.unusedSimpArgs false

theorem SrbV.sl2 {w : World} {lo hi : Nat} {p h b e : Value} {P H : List ByteArray} {B : List Bool} {es : List Int} (d : SrbV w lo hi p h b e P H B es) (h0 : 0 < es.length) :
    ∃ ap cp ah ch ab cb ge ce, p = .slice ap P.length cp ∧ h = .slice ah H.length ch ∧ b = .slice ab B.length cb ∧ e = .slice (some ⟨ge, 0, none⟩) es.length ce := by
  obtain ⟨ap, cp, ah, ch, ab, cb, ae, ce, e1, e2, e3, _⟩ := d.sl
  rcases d.eps.2 with ⟨_, hn⟩ | ⟨ge, c, _, e4, _⟩
  · omega
  · exact ⟨ap, cp, ah, ch, ab, cb, ge, c, e1, e2, e3, e4⟩
theorem SrbV.cellE {w : World} {lo hi g c n : Nat} {p h b : Value} {P H : List ByteArray} {B : List Bool} {es : List Int} (d : SrbV w lo hi p h b (.slice (some ⟨g, 0, none⟩) n c) P H B es) (hn : es.length = n) (i : Nat) (hi' : i < n) : w.cell? ⟨g, i, none⟩ = some (.int .i64 (es.getD i 0)) ∧ w.frozen? ⟨g, i, none⟩ = false := by
  subst hn
  refine ⟨?_, World.ownsRow.frozenAt d.eps i⟩
  rw [World.ownsRow.cellAt d.eps i (by omega), List.getElem?_map, List.getD_eq_getElem?_getD, List.getElem?_eq_getElem hi']
  rfl
theorem SrbV.putE {w : World} {lo hi g c n : Nat} {p h b : Value} {P H : List ByteArray} {B : List Bool} {es : List Int} (d : SrbV w lo hi p h b (.slice (some ⟨g, 0, none⟩) n c) P H B es) (hn : es.length = n) (i : Nat) (z : Int) :
    SrbV (w.setCell ⟨g, i, none⟩ (.int .i64 z)) lo hi p h b (.slice (some ⟨g, 0, none⟩) n c) P H B (es.set i z) ∧ Chg lo hi w (w.setCell ⟨g, i, none⟩ (.int .i64 z)) := by
  subst hn
  have st := World.ownsRow.stored d.eps i (.int .i64 z)
  rw [← List.map_set] at st
  have hg : w.grownBy (w.setCell ⟨g, i, none⟩ (.int .i64 z)) (some g) := st.2
  obtain ⟨l, u, h1, h2, h3⟩ := d.disk
  refine ⟨⟨⟨l, u, h1, dsk_out (v := .slice (some ⟨g, 0, none⟩) es.length c) h2 h3 hg, h3⟩, ?_, d.te⟩, Chg.ofGrown hg (fun j hj => ?_)⟩
  · show World.ownsRow _ _ _ _ _ (es.set i z).length _
    rw [List.length_set]
    exact st.1
  · cases hj
    exact ⟨row_low d.eps g rfl, d.te g rfl⟩
theorem HeldG.two {W w : World} : ∀ {top : Nat} {L : List Tg} {i j : Nat} {t u : Tg}, HeldG W w top L → i < j → L[i]? = some t → L[j]? = some u → ∃ lo hi lo' hi', t lo hi w ∧ u lo' hi' w ∧ hi ≤ top ∧ hi' ≤ lo ∧ W.heap.size ≤ lo' ∧ W.heap.size ≤ lo
  | top, [], i, j, t, u, _, _, h, _ => by simp at h
  | top, t0 :: L, 0, j + 1, t, u, ⟨lo, hi, h0, h1, h2, h⟩, _, hi', hj => by
    simp at hi'
    subst hi'
    obtain ⟨lo', hi2, ok, hb, ht, _⟩ := HeldG.open h (by simpa using hj)
    exact ⟨lo, hi, lo', hi2, h0.2, ok, h2, ht, hb, h.base⟩
  | top, t0 :: L, i + 1, j + 1, t, u, ⟨lo, hi, h0, h1, h2, h⟩, hij, hi', hj => by
    obtain ⟨a, b, c, d, e1, e2, e3, e4, e5, e6⟩ := HeldG.two h (Nat.lt_of_succ_lt_succ hij) (by simpa using hi') (by simpa using hj)
    exact ⟨a, b, c, d, e1, e2, by omega, e4, e5, e6⟩
theorem Hand.srbOf {W w : World} {L : List Tg} (A : Hand W w L) (i j : Nat) (hij : i < j) {p h b p2 h2 b2 e : Value} {P H P2 H2 : List ByteArray} {B B2 : List Bool} {es : List Int} (hi : L[i]? = some (TDsk p2 h2 b2 P2 H2 B2)) (hj : L[j]? = some (TSrb p h b e P H B es)) :
    SrbV w W.heap.size w.heap.size p2 h2 b2 e P2 H2 B2 es := by
  obtain ⟨lo, hi1, lo', hi', t1, t2, l1, l2, l3, l4⟩ := HeldG.two A.held hij hi hj
  have s : SrbV w lo' hi' p h b e P H B es := t2
  have r : DskV w lo hi1 p2 h2 b2 P2 H2 B2 := t1
  refine ⟨⟨lo, hi1, ⟨l4, l1⟩, r, fun k hk => .inl (Nat.lt_of_lt_of_le (s.te k hk) l2)⟩, ownsRow_mono s.eps l3, fun k hk => ?_⟩
  have q1 := s.te k hk
  have q2 := (World.ownsRow.lt s.eps k hk).2
  omega
/-- The second thing from the top let go. -/
theorem Hand.drop1 {W w : World} {L : List Tg} {t u : Tg} (A : Hand W w (t :: u :: L)) : Hand W w (t :: L) := by
  obtain ⟨lo, hi, h0, h1, h2, lo2, hi2, _, k1, k2, rest⟩ := A.held
  exact ⟨A.below, lo, hi, h0, h1, h2, rest.up (Nat.le_trans k1 k2)⟩
theorem Hand.drop0 {W w : World} {L : List Tg} {t : Tg} (A : Hand W w (t :: L)) : Hand W w L := by
  obtain ⟨lo, hi, _, h1, h2, rest⟩ := A.held
  exact ⟨A.below, rest.up (Nat.le_trans h1 h2)⟩
theorem below_store3 {b : Nat} {W w : World} (h : Below b W w) (g : Nat) (hg : b ≤ g) (hb : b ≤ W.heap.size) (v0 v1 v2 : Value) : Below b W (((w.setCell ⟨g, 0, none⟩ v0).setCell ⟨g, 1, none⟩ v1).setCell ⟨g, 2, none⟩ v2) :=
  h.trans ((Chg.store3 (lo := g) (hi := g + 1) w g v0 v1 v2 (Nat.le_refl _) (by omega)).below hg (Nat.le_trans hb h.size))
end Go.Proofs.YtbgadbokejaomaaGreatDoor

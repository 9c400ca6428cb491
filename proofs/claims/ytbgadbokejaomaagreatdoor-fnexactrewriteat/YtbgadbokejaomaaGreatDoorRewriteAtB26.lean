/-
  PiecesFor: the program's and its model's, at every text. The program's table of rests must hold its seven numbers where the program's own functions are called. Texts put together, and counted: the program's JoinChunks and its model's, call by call. Each says what it asks of the texts' sizes. Pieces put together: the program's JoinBody and its model's, call by call. No condition but a bound on the texts' lengths. A piece as bytes, by the model: l8Text. The contract says what it asks. Pieces held against pieces: the program's arrays and its model's lists, call by call. Each contract says what it asks. How many pieces are unlike: the program's function and its model's, call by call. Each contract says what it asks. How many rows are unlike, as the model tells it, call by call. Each contract says what it asks. CheckPieces: the program's function and its model's, at all arguments. The program's table of rests must hold its seven numbers where the program's own function is called. TextFrom: the program's and its model's, at all rows. The program's table of rests must hold its seven numbers where the program's own functions are called.
-/
import Derived.Test.YtbgadbokejaomaaGreatDoorRewriteAtB25
import Derived.Test.YtbgadbokejaomaaGreatDoorRewriteAtB18
import Derived.Deep.DeepCutAuto
import Derived.Test.YtbgadbokejaomaaGreatDoorRewriteAtB4
import Derived.Lib.AppendStr
import Derived.Test.YtbgadbokejaomaaGreatDoorRewriteAtB20
import Derived.Test.YtbgadbokejaomaaGreatDoorRewriteAtB24
import Derived.Test.YtbgadbokejaomaaGreatDoorRewriteAtB22
import Derived.Deep.WholeRow
import Derived.ChangeKeysEq
namespace Go.Proofs.YtbgadbokejaomaaGreatDoor
open Go.RowKit
open Gf (ci nat)
set_option linter.unusedVariables false

/-- The k-th sixteen bytes of a block. -/
def rowN (S : ByteArray) (k : Nat) : List Nat := ((blk S).drop (16 * k)).take 16
def datM (S : ByteArray) : List (List Int) := (List.range 3).map fun k => ci (rowN S k)
def pfR (S : ByteArray) : List (List Int) × Bool := if S.size ≤ 47 then (mulM (codeM 3 2) (datM S), true) else ([], false)
theorem rowN_length {S : ByteArray} (h : S.size ≤ 47) (k : Nat) (hk : k < 3) : (rowN S k).length = 16 := by
  unfold rowN
  rw [List.length_take, List.length_drop, blk_length h]
  omega
theorem rowN_small {S : ByteArray} (h : S.size ≤ 47) (k : Nat) : ∀ b ∈ rowN S k, b < 256 := fun b hb => blk_small h b (List.mem_of_mem_drop (List.mem_of_mem_take hb))
theorem rowN_get {S : ByteArray} (h : S.size ≤ 47) (k j : Nat) (hk : k < 3) (hj : j < 16) : (rowN S k).getD j 0 = (blk S).getD (k * 16 + j) 0 := by
  unfold rowN
  simp only [List.getD_eq_getElem?_getD]
  rw [List.getElem?_take, if_pos hj, List.getElem?_drop, Nat.mul_comm]
theorem datM_length (S : ByteArray) : (datM S).length = 3 := by simp [datM]
theorem datM_get (S : ByteArray) (k : Nat) (hk : k < 3) : (datM S).getD k [] = ci (rowN S k) := by
  unfold datM
  simp only [List.getD_eq_getElem?_getD]
  rw [List.getElem?_map, List.getElem?_range hk]
  rfl
theorem ci_el {l : List Nat} (h : ∀ b ∈ l, b < 256) : (ci l).all Gf.elOk = true := by
  rw [List.all_eq_true]
  intro x hx
  unfold ci at hx
  obtain ⟨b, hb, rfl⟩ := List.mem_map.1 hx
  have := h b hb
  simp only [Gf.elOk, decide_eq_true_eq]
  omega
theorem datM_ok {S : ByteArray} (h : S.size ≤ 47) : piecesOk (datM S) = true := by
  refine piecesOk_yes fun i hi => ?_
  rw [datM_length] at hi
  unfold pieceAt
  rw [datM_get S i hi, datM_get S 0 (by omega), Gf.ci_length, Gf.ci_length, rowN_length h i hi, rowN_length h 0 (by omega), ci_el (rowN_small h i)]
  rfl
theorem pf_enc {S : ByteArray} (h : S.size ≤ 47) : encR (datM S) 2 = pfR S := by
  unfold encR pfR encOk
  rw [if_pos h, datM_ok h, datM_length, if_pos (by decide)]
  rfl
theorem pf_split {S : ByteArray} (h : S.size ≤ 47) : (splR (ofN (blk S))).1.map (fun s : ByteArray => ci (bs s)) = datM S ∧ (splR (ofN (blk S))).1.length = 3 ∧ ∀ i, i < 3 → ((splR (ofN (blk S))).1.getD i ⟨#[]⟩).size ≤ 4096 := by
  have hz : (ofN (blk S)).size = 48 := by rw [ofN_size, blk_length h]
  have hb : bs (ofN (blk S)) = blk S := bs_ofN (blk_small h)
  have e : splR (ofN (blk S)) = (pcs (ofN (blk S)) 3, true) := by
    unfold splR many
    rw [hz, if_pos (by omega)]
  rw [e]
  have hpc : ∀ k, bs (pc (ofN (blk S)) k) = rowN S k := by
    intro k
    unfold pc rowN
    rw [hb]
    exact bs_ofN (fun b hb => blk_small h b (List.mem_of_mem_drop (List.mem_of_mem_take hb)))
  refine ⟨?_, pcs_length _ _, fun i hi => ?_⟩
  · show (pcs (ofN (blk S)) 3).map _ = _
    unfold pcs datM
    rw [List.map_map]
    apply List.map_congr_left
    intro k _
    show ci (bs (pc (ofN (blk S)) k)) = _
    rw [hpc]
  · have : (pcs (ofN (blk S)) 3).getD i ⟨#[]⟩ = pc (ofN (blk S)) i := by
      unfold pcs
      simp only [List.getD_eq_getElem?_getD]
      rw [List.getElem?_map, List.getElem?_range hi]
      rfl
    show ((pcs (ofN (blk S)) 3).getD i ⟨#[]⟩).size ≤ 4096
    rw [this, pc_size]
    omega
set_option maxRecDepth 100000 in
set_option maxHeartbeats 800000 in
theorem piecesFor_calls (S : ByteArray) (w : World) (hT : Gf.Tab w) (hS : S.size ≤ maxLen) :
    Calls Tryz.prog 98 #[.string S] w fun e w' => ∃ v', e = .returned (.tuple #[v', .bool (pfR S).2]) ∧ Mat w' w.heap.size w'.heap.size v' (pfR S).1 ∧ Below w.heap.size w w' := by
  unfold maxLen at hS
  have T := hide hT
  clear hT
  by_cases h : S.size ≤ 47
  · have E := hide (pf_enc h)
    obtain ⟨p1, p2, p3⟩ := pf_split h
    have C1 := hide (fun W => blockOf_calls S W h)
    have C2 := hide (fun W => splitBody_calls (ofN (blk S)) W (by rw [ofN_size, blk_length h]; unfold maxLen; omega))
    have P1 := hide p1
    have P2 := hide p2
    have P3 := hide p3
    rw [← E.out]
    generalize ofN (blk S) = B at C1 C2 P1 P2 P3
    generalize (splR B).2 = ok at C2
    generalize (splR B).1 = xs at C2 P1 P2 P3
    have h' : ¬ (47 : Int) < (S.size : Int) := by omega
    clear p1 p2 p3
    go_enter Tryz.func98, Tryz.ntmps98
    go_wp2_with fail
    refine (C1.out _).mono ?_
    rintro e w1 ⟨rfl, q1⟩
    have B1 := hide q1
    clear q1
    go_wp2_with fail
    refine (C2.out _).mono ?_
    rintro e w2 ⟨v2, rfl, o2, q2⟩
    have B2 := hide (B1.out.trans (q2.mono B1.out.size))
    have R2 := hide (OwnT.rd o2 (fun s hs => by
      obtain ⟨i, hi, rfl⟩ := List.getElem_of_mem hs
      have := P3.out i (by rw [← P2.out]; exact hi)
      rw [List.getD_eq_getElem?_getD, List.getElem?_eq_getElem hi, Option.getD_some] at this
      unfold maxLen
      omega))
    clear q2 o2
    go_wp2_with fail
    refine (eachElems_calls _ xs _ R2.out (fun i hi => P3.out i (by rw [← P2.out]; exact hi)) (by rw [P2.out]; omega)).mono ?_
    rintro e w3 ⟨v3, rfl, r3, q3⟩
    have B3 := hide (B2.out.trans (q3.mono B2.out.size))
    rw [P1.out] at r3
    have R3 := hide r3
    clear q3 r3 R2
    go_wp2_with fail
    refine (encodePieces_calls _ (datM S) 2 _ (Gf.Tab.below T.out B3.out) R3.out).mono ?_
    rintro e w4 ⟨v4, rfl, m4, q4⟩
    have M4 := hide (m4.wider B3.out.size (Nat.le_refl _))
    have B4 := hide (B3.out.trans (q4.mono B3.out.size))
    clear m4 q4
    go_wp2
    go_ret2
    exact ⟨_, rfl, M4.out, B4.out⟩
  · have e : pfR S = ([], false) := if_neg h
    rw [e]
    have h' : (47 : Int) < (S.size : Int) := by omega
    clear e
    go_enter Tryz.func98, Tryz.ntmps98
    go_wp2
    go_ret2
    exact ⟨_, rfl, Mat.nil _ _ _, Below.refl _ _⟩

set_option maxRecDepth 100000 in
theorem conv_zst (n : Nat) (W W' : World) (h : Below (W.alloc (.cells (madeCells #[.int .u8 0] n) 5)).heap.size (W.alloc (.cells (madeCells #[.int .u8 0] n) 5)) W') :
    (convert 56 9 (.slice (some ⟨W.heap.size, 0, none⟩) n n)).run Tryz.prog W' = .ok (.string (zst n)) W' := by
  have hz : ZRow W' W.heap.size (List.replicate n 0) := by
    unfold ZRow
    rw [h.block W.heap.size (by simp), heap_alloc_new]
    congr 2
    apply Array.ext'
    rw [toList_madeCells_one]
    simp [u8v]
  have := hz.conv (n := n) (cap := n) (fun y hy => by have := (List.mem_replicate.1 hy).2; omega) (by simp)
  rw [List.take_of_length_le (by simp)] at this
  rw [this]
  congr 2
  apply bs_inj
  rw [bs_zst, bs_ofN (fun y hy => by have := (List.mem_replicate.1 hy).2; omega)]

set_option linter.unusedSimpArgs false in
set_option maxRecDepth 100000 in
set_option maxHeartbeats 3200000 in
theorem l8Pieces_calls (S : ByteArray) (w : World) (h : S.size ≤ 47) :
    Calls Tryz.prog 95 #[.string S] w fun e w' => ∃ v', e = .returned v' ∧ Mat w' w.heap.size w'.heap.size v' (mulM (codeM 3 2) (datM S)) ∧ Below w.heap.size w w' := by
  have hs1 : (ofN (hiB S.size 1)).size = 1 := by rw [ofN_size, hiB_length]
  have C1 := hide (fun W => l6Bytes_calls S.size 1 W (by omega) (by omega))
  have hp : ofN (hiB S.size 1) ++ S ++ zst (47 - S.size) = ofN (blk S) := by
    have e1 : zst (47 - S.size) = ofN (List.replicate (47 - S.size) 0) := by
      apply bs_inj
      rw [bs_zst, bs_ofN (fun y hy => by have := (List.mem_replicate.1 hy).2; omega)]
    have e2 : hiB S.size 1 = [S.size] := by
      show [] ++ [S.size % 256] = [S.size]
      rw [List.nil_append, Nat.mod_eq_of_lt (by omega)]
    have e3 := ofN_append [S.size] (bs S)
    rw [ofN_bs] at e3
    rw [e1, e2, e3, ofN_append]
    rfl
  generalize ofN (hiB S.size 1) = T1 at hp hs1 C1
  have CV : Hid (∀ W W' : World, Below (W.alloc (.cells (madeCells #[.int .u8 0] (47 - S.size)) 5)).heap.size (W.alloc (.cells (madeCells #[.int .u8 0] (47 - S.size)) 5)) W' →
      (convert 56 9 (.slice (some ⟨W.heap.size, 0, none⟩) (47 - S.size) (47 - S.size))).run Tryz.prog W' = .ok (.string (zst (47 - S.size))) W') := fun W W' h => conv_zst (47 - S.size) W W' h
  have hz6 : (zst (47 - S.size)).size = 47 - S.size := zst_size _
  have A1 := fun W : World => run_string_add_sum (P := Tryz.prog) (w := W) T1 S (by omega)
  have A2 := fun W : World => run_string_add_sum (P := Tryz.prog) (w := W) (T1 ++ S) (zst (47 - S.size)) (by rw [ByteArray.size_append, hz6]; omega)
  have hmk : ∀ W : World, (Instr.makeSlice 56 (.int .i64 (47 - (S.size : Int))) (.int .i64 (47 - (S.size : Int)))).run Tryz.prog W = .ok (.slice (some ⟨W.heap.size, 0, none⟩) (47 - S.size) (47 - S.size)) (W.alloc (.cells (madeCells #[.int .u8 0] (47 - S.size)) 5)) := by
    intro W
    have e1 : (47 - (S.size : Int)) = ((47 - S.size : Nat) : Int) := by omega
    rw [e1]
    exact run_make_row' (P := Tryz.prog) 56 5 (.int .u8 0) 1 Tryz.underlying56 infoByte rfl .i64 .i64 (47 - S.size) (by omega) (by omega) W
  have hw1 : IntKind.i64.wrap (47 - (S.size : Int)) = 47 - (S.size : Int) := by rw [IntKind.wrap_i64]; omega
  have HP := hide hp
  have TB : Hid (bs (ofN (blk S)) = blk S) := bs_ofN (blk_small h)
  have tz : (ofN (blk S)).size = 48 := by rw [ofN_size, blk_length h]
  clear hp hs1 hz6
  obtain ⟨D, hD⟩ : ∃ D, D = datM S := ⟨_, rfl⟩
  have DL : Hid (D.length = 3) := by show _ = _; rw [hD, datM_length]
  have DG : Hid (∀ k, k < 3 → D.getD k [] = ci (rowN S k)) := by show ∀ k, _; intro k hk; rw [hD, datM_get S k hk]
  have DO : Hid (piecesOk D = true) := by show _ = _; rw [hD]; exact datM_ok h
  have RL := hide (fun k hk => rowN_length h k hk)
  have RG := hide (fun k j hk hj => rowN_get h k j hk hj)
  rw [← hD]
  clear hD
  go_enter Tryz.func95, Tryz.ntmps95
  go_upto_region 1 with fail
  go_cut [3] (fun s3 wx => s3 = .string (ofN (blk S)) ∧ Below w.heap.size w wx)
  case first =>
    refine wp_region_noPanic ?_
    refine wp_region_held_drew (S := fun _ => True) (by kernel_rfl) (trivial) (fun hHeld => ?_)
    have S0 := hide (Below.refl w.heap.size w).drew
    generalize w.drew = W0 at S0 hHeld ⊢
    refine wpAnyH_take (i := 0) (v := ?v1) rfl (by kernel_rfl) (by kernel_rfl) (by kernel_rfl) (fun _ _ _ h => h) (Or.inl ⟨by rfl, ?hy1⟩) (by assumption) ?rest1
    case hy1 => (intro w' hSw; dsimp only [List.getElem_toArray, List.getElem_cons_zero, List.getElem_cons_succ] at hSw ⊢; go_simp; try (with_reducible rfl))
    try simp only [Act.put, List.getElem_toArray, List.getElem_cons_zero, List.getElem_cons_succ, List.setIfInBounds_toArray, List.set_cons_zero, List.set_cons_succ]
    refine wpAnyH_take (i := 1) (v := ?v2) rfl (by kernel_rfl) (by kernel_rfl) (by kernel_rfl) (fun _ _ _ h => h) (Or.inl ⟨by rfl, ?hy2⟩) (by assumption) ?rest2
    case hy2 => (intro w' hSw; dsimp only [List.getElem_toArray, List.getElem_cons_zero, List.getElem_cons_succ] at hSw ⊢; go_simp; try (with_reducible rfl))
    try simp only [Act.put, List.getElem_toArray, List.getElem_cons_zero, List.getElem_cons_succ, List.setIfInBounds_toArray, List.set_cons_zero, List.set_cons_succ]
    refine wpAnyH_take (i := 3) (v := ?v3) rfl (by kernel_rfl) (by kernel_rfl) (by kernel_rfl) (fun _ _ _ h => h) (Or.inl ⟨by rfl, ?hy3⟩) (by assumption) ?rest3
    case hy3 => (intro w' hSw; dsimp only [List.getElem_toArray, List.getElem_cons_zero, List.getElem_cons_succ] at hSw ⊢; go_simp; try (with_reducible rfl))
    try simp only [Act.put, List.getElem_toArray, List.getElem_cons_zero, List.getElem_cons_succ, List.setIfInBounds_toArray, List.set_cons_zero, List.set_cons_succ]
    refine wpAnyH_take (i := 5) (v := ?v4) rfl (by kernel_rfl) (by kernel_rfl) (by kernel_rfl) (fun _ _ _ h => h) (Or.inl ⟨by rfl, ?hy4⟩) (by assumption) ?rest4
    case hy4 => (intro w' hSw; dsimp only [List.getElem_toArray, List.getElem_cons_zero, List.getElem_cons_succ] at hSw ⊢; go_simp; try (with_reducible rfl))
    try simp only [Act.put, List.getElem_toArray, List.getElem_cons_zero, List.getElem_cons_succ, List.setIfInBounds_toArray, List.set_cons_zero, List.set_cons_succ]
    refine wpAnyH_take (i := 6) (v := ?v5) rfl (by kernel_rfl) (by kernel_rfl) (by kernel_rfl) (fun _ _ _ h => h) (Or.inl ⟨by rfl, ?hy5⟩) (by assumption) ?rest5
    case hy5 => (intro w' hSw; dsimp only [List.getElem_toArray, List.getElem_cons_zero, List.getElem_cons_succ] at hSw ⊢; go_simp; try (with_reducible rfl))
    try simp only [Act.put, List.getElem_toArray, List.getElem_cons_zero, List.getElem_cons_succ, List.setIfInBounds_toArray, List.set_cons_zero, List.set_cons_succ]
    refine wpAnyH_take (i := 7) (v := ?v6) rfl (by kernel_rfl) (by kernel_rfl) (by kernel_rfl) (fun _ _ _ h => h) (Or.inl ⟨by rfl, ?hy6⟩) (by assumption) ?rest6
    case hy6 => (intro w' hSw; dsimp only [List.getElem_toArray, List.getElem_cons_zero, List.getElem_cons_succ] at hSw ⊢; go_simp; try (with_reducible rfl))
    try simp only [Act.put, List.getElem_toArray, List.getElem_cons_zero, List.getElem_cons_succ, List.setIfInBounds_toArray, List.set_cons_zero, List.set_cons_succ]
    refine wpAnyH_ready (rs := [2, 8]) (by kernel_rfl) (by simp) ?_
    refine AllReadyH.cons rfl (fun K hK => ?_) (AllReadyH.cons rfl (fun K hK => ?_) AllReadyH.nil)
    · dsimp only [List.getElem_toArray, List.getElem_cons_zero, List.getElem_cons_succ]
      go_simp
      refine (C1.out _).mono ?_
      rintro e' w1 ⟨rfl, bb⟩
      have S1 := hide (S0.out.trans (bb.mono S0.out.size))
      clear bb hHeld
      refine hK.out _ _ trivial (fun hHeld => ?_)
      clear hK K
      try simp only [Act.put, List.getElem_toArray, List.getElem_cons_zero, List.getElem_cons_succ, List.setIfInBounds_toArray, List.set_cons_zero, List.set_cons_succ]
      refine wpAnyH_take (i := 4) (v := ?v7) rfl (by kernel_rfl) (by kernel_rfl) (by kernel_rfl) (fun _ _ _ h => h) (Or.inl ⟨by rfl, ?hy7⟩) (by assumption) ?rest7
      case hy7 => (intro w' hSw; dsimp only [List.getElem_toArray, List.getElem_cons_zero, List.getElem_cons_succ] at hSw ⊢; go_simp; try (with_reducible rfl))
      try simp only [Act.put, List.getElem_toArray, List.getElem_cons_zero, List.getElem_cons_succ, List.setIfInBounds_toArray, List.set_cons_zero, List.set_cons_succ]
      refine wpAnyH_ready (rs := [8]) (by kernel_rfl) (by simp) ?_
      refine AllReadyH.cons rfl (fun K hK => ?_) AllReadyH.nil
      dsimp only [List.getElem_toArray, List.getElem_cons_zero, List.getElem_cons_succ]
      go_simp
      refine hK.out _ _ trivial (fun hHeld => ?_)
      clear hK K hHeld
      refine wpAnyH_imp (S' := fun w' => True ∧ (convert 56 9 (.slice (some ⟨w1.heap.size, 0, none⟩) (47 - S.size) (47 - S.size))).run Tryz.prog w' = .ok (.string (zst (47 - S.size))) w') (fun _ h => h.1) _ _ _ _ ?_
      have MM := hide (Below.refl (w1.alloc (.cells (madeCells #[.int .u8 0] (47 - S.size)) 5)).heap.size (w1.alloc (.cells (madeCells #[.int .u8 0] (47 - S.size)) 5)))
      have SM := hide (S1.out.alloc S1.out.size (.cells (madeCells #[.int .u8 0] (47 - S.size)) 5))
      have hHeld : (fun w' : World => True ∧ (convert 56 9 (.slice (some ⟨w1.heap.size, 0, none⟩) (47 - S.size) (47 - S.size))).run Tryz.prog w' = .ok (.string (zst (47 - S.size))) w') (w1.alloc (.cells (madeCells #[.int .u8 0] (47 - S.size)) 5)) := ⟨trivial, CV.out _ _ MM.out⟩
      try simp only [Act.put, List.getElem_toArray, List.getElem_cons_zero, List.getElem_cons_succ, List.setIfInBounds_toArray, List.set_cons_zero, List.set_cons_succ]
      refine wpAnyH_take (i := 9) (v := ?v8) rfl (by kernel_rfl) (by kernel_rfl) (by kernel_rfl) (fun _ _ _ h => h) (Or.inl ⟨by rfl, ?hy8⟩) (by assumption) ?rest8
      case hy8 => (intro w' hSw; dsimp only [List.getElem_toArray, List.getElem_cons_zero, List.getElem_cons_succ] at hSw ⊢; go_simp; try (with_reducible rfl))
      try simp only [Act.put, List.getElem_toArray, List.getElem_cons_zero, List.getElem_cons_succ, List.setIfInBounds_toArray, List.set_cons_zero, List.set_cons_succ]
      refine wpAnyH_take (i := 10) (v := ?v9) rfl (by kernel_rfl) (by kernel_rfl) (by kernel_rfl) (fun _ _ _ h => h) (Or.inl ⟨by rfl, ?hy9⟩) (by assumption) ?rest9
      case hy9 => (intro w' hSw; dsimp only [List.getElem_toArray, List.getElem_cons_zero, List.getElem_cons_succ] at hSw ⊢; go_simp; try (with_reducible rfl))
      try simp only [Act.put, List.getElem_toArray, List.getElem_cons_zero, List.getElem_cons_succ, List.setIfInBounds_toArray, List.set_cons_zero, List.set_cons_succ]
      refine wpAnyH_take (i := 11) (v := ?v10) rfl (by kernel_rfl) (by kernel_rfl) (by kernel_rfl) (fun _ _ _ h => h) (Or.inl ⟨by rfl, ?hy10⟩) (by assumption) ?rest10
      case hy10 => (intro w' hSw; dsimp only [List.getElem_toArray, List.getElem_cons_zero, List.getElem_cons_succ] at hSw ⊢; go_simp; try (with_reducible rfl))
      try simp only [Act.put, List.getElem_toArray, List.getElem_cons_zero, List.getElem_cons_succ, List.setIfInBounds_toArray, List.set_cons_zero, List.set_cons_succ]
      refine wpAnyH_done (by kernel_rfl) ?_ _
      refine NoPanic.normal ?_
      clear hHeld
      go_wp2_with fail
      go_meet
      exact ⟨by rw [HP.out], SM.out⟩
    · dsimp only [List.getElem_toArray, List.getElem_cons_zero, List.getElem_cons_succ]
      go_simp
      refine hK.out _ _ trivial (fun hHeld => ?_)
      clear hK K hHeld
      refine wpAnyH_imp (S' := fun w' => True ∧ (convert 56 9 (.slice (some ⟨W0.heap.size, 0, none⟩) (47 - S.size) (47 - S.size))).run Tryz.prog w' = .ok (.string (zst (47 - S.size))) w') (fun _ h => h.1) _ _ _ _ ?_
      have MM := hide (Below.refl (W0.alloc (.cells (madeCells #[.int .u8 0] (47 - S.size)) 5)).heap.size (W0.alloc (.cells (madeCells #[.int .u8 0] (47 - S.size)) 5)))
      have SM := hide (S0.out.alloc S0.out.size (.cells (madeCells #[.int .u8 0] (47 - S.size)) 5))
      have hHeld : (fun w' : World => True ∧ (convert 56 9 (.slice (some ⟨W0.heap.size, 0, none⟩) (47 - S.size) (47 - S.size))).run Tryz.prog w' = .ok (.string (zst (47 - S.size))) w') (W0.alloc (.cells (madeCells #[.int .u8 0] (47 - S.size)) 5)) := ⟨trivial, CV.out _ _ MM.out⟩
      try simp only [Act.put, List.getElem_toArray, List.getElem_cons_zero, List.getElem_cons_succ, List.setIfInBounds_toArray, List.set_cons_zero, List.set_cons_succ]
      refine wpAnyH_take (i := 9) (v := ?v11) rfl (by kernel_rfl) (by kernel_rfl) (by kernel_rfl) (fun _ _ _ h => h) (Or.inl ⟨by rfl, ?hy11⟩) (by assumption) ?rest11
      case hy11 => (intro w' hSw; dsimp only [List.getElem_toArray, List.getElem_cons_zero, List.getElem_cons_succ] at hSw ⊢; go_simp; try (with_reducible rfl))
      try simp only [Act.put, List.getElem_toArray, List.getElem_cons_zero, List.getElem_cons_succ, List.setIfInBounds_toArray, List.set_cons_zero, List.set_cons_succ]
      refine wpAnyH_ready (rs := [2]) (by kernel_rfl) (by simp) ?_
      refine AllReadyH.cons rfl (fun K hK => ?_) AllReadyH.nil
      dsimp only [List.getElem_toArray, List.getElem_cons_zero, List.getElem_cons_succ]
      go_simp
      refine (C1.out _).mono ?_
      rintro e' w1 ⟨rfl, bb⟩
      have M1 := hide (MM.out.trans (bb.mono MM.out.size))
      have S1 := hide (SM.out.trans (bb.mono SM.out.size))
      clear bb hHeld
      refine hK.out _ _ ⟨trivial, CV.out _ _ M1.out⟩ (fun hHeld => ?_)
      clear hK K
      try simp only [Act.put, List.getElem_toArray, List.getElem_cons_zero, List.getElem_cons_succ, List.setIfInBounds_toArray, List.set_cons_zero, List.set_cons_succ]
      refine wpAnyH_take (i := 4) (v := ?v12) rfl (by kernel_rfl) (by kernel_rfl) (by kernel_rfl) (fun _ _ _ h => h) (Or.inl ⟨by rfl, ?hy12⟩) (by assumption) ?rest12
      case hy12 => (intro w' hSw; dsimp only [List.getElem_toArray, List.getElem_cons_zero, List.getElem_cons_succ] at hSw ⊢; go_simp; try (with_reducible rfl))
      try simp only [Act.put, List.getElem_toArray, List.getElem_cons_zero, List.getElem_cons_succ, List.setIfInBounds_toArray, List.set_cons_zero, List.set_cons_succ]
      refine wpAnyH_take (i := 10) (v := ?v13) rfl (by kernel_rfl) (by kernel_rfl) (by kernel_rfl) (fun _ _ _ h => h) (Or.inl ⟨by rfl, ?hy13⟩) (by assumption) ?rest13
      case hy13 => (intro w' hSw; dsimp only [List.getElem_toArray, List.getElem_cons_zero, List.getElem_cons_succ] at hSw ⊢; go_simp; try (with_reducible rfl))
      try simp only [Act.put, List.getElem_toArray, List.getElem_cons_zero, List.getElem_cons_succ, List.setIfInBounds_toArray, List.set_cons_zero, List.set_cons_succ]
      refine wpAnyH_take (i := 11) (v := ?v14) rfl (by kernel_rfl) (by kernel_rfl) (by kernel_rfl) (fun _ _ _ h => h) (Or.inl ⟨by rfl, ?hy14⟩) (by assumption) ?rest14
      case hy14 => (intro w' hSw; dsimp only [List.getElem_toArray, List.getElem_cons_zero, List.getElem_cons_succ] at hSw ⊢; go_simp; try (with_reducible rfl))
      try simp only [Act.put, List.getElem_toArray, List.getElem_cons_zero, List.getElem_cons_succ, List.setIfInBounds_toArray, List.set_cons_zero, List.set_cons_succ]
      refine wpAnyH_done (by kernel_rfl) ?_ _
      refine NoPanic.normal ?_
      clear hHeld
      go_wp2_with fail
      go_meet
      exact ⟨by rw [HP.out], S1.out⟩
  case rest =>
    clear A1 A2 hmk hw1 CV C1 HP
    obtain ⟨rfl, hb⟩ := hcut
    have B0 := hide hb
    clear hb
    generalize hTT : ofN (blk S) = T at *
    have TB2 : Hid (bs T = blk S) := TB.out
    have TZ : Hid (T.size = 48) := tz
    clear hTT TB tz
    go_wp2
    go_loopw [4, 5, 6, 7] (fun vd vk _ _ wr => ∃ (k : Nat) (vs : List Value), k ≤ 3 ∧ vk = .int .i64 k ∧ MatV wr w.heap.size wr.heap.size vd vs (D.take k) ∧ Below w.heap.size w wr) (fun _ vk _ _ _ => 3 - (intOf vk).toNat)
    case atStart =>
      obtain ⟨vs, hv⟩ := Mat.nil wc w.heap.size wc.heap.size
      exact ⟨0, vs, Nat.zero_le _, rfl, hv, B0.out⟩
    case round =>
      obtain ⟨k, vs, hk, rfl, hm, hb⟩ := hrel
      obtain ⟨Wr, rfl⟩ : ∃ W1, W1 = wr := ⟨_, rfl⟩
      obtain ⟨ad, cd, hvd⟩ := row_slice hm.head
      obtain ⟨nd, hnd⟩ : ∃ nd, nd = (D.take k).length := ⟨_, rfl⟩
      have hnd3 : nd ≤ 3 := by rw [hnd, List.length_take]; omega
      rw [← hnd] at hvd
      subst hvd
      have M := hide hm
      have B := hide hb
      have s1 := hb.size
      clear hm hb hnd
      by_cases hlt : k < 3
      · have hlt' : (k : Int) < 3 := by omega
        have RLk := hide (RL.out k hlt)
        have RGk := hide (fun j hj => RG.out k j hlt hj)
        have NX : Hid (D.take (k + 1) = D.take k ++ [ci (rowN S k)]) := by
          show _ = _
          rw [List.take_succ_eq_append_getElem (by rw [DL.out]; exact hlt)]
          have := DG.out k hlt
          rw [List.getD_eq_getElem?_getD, List.getElem?_eq_getElem (by rw [DL.out]; exact hlt), Option.getD_some] at this
          rw [this]
        generalize rowN S k = row at RLk RGk NX
        go_wp2
        go_loopw [6, 7] (fun vp vi wt => ∃ (j : Nat), j ≤ 16 ∧ vi = .int .i64 j ∧ Own wt Wr.heap.size vp (ci (row.take j)) ∧ Below Wr.heap.size Wr wt) (fun _ vi _ => 16 - (intOf vi).toNat)
        case atStart => exact ⟨0, Nat.zero_le _, rfl, World.ownsRow_nil _ _ _ _, Below.refl _ _⟩
        case round =>
          obtain ⟨j, hj, rfl, ho, hbt⟩ := hrel
          obtain ⟨ap, cp, hvp⟩ := row_slice ho
          have hln : (ci (row.take j)).length = j := by rw [Gf.ci_length, List.length_take, RLk.out]; omega
          rw [hln] at hvp
          subst hvp
          have ho' : wr.ownsRow Wr.heap.size 3 1 (.slice ap j cp) j ((ci (row.take j)).map (Value.int .i64)) := by
            have := ho
            unfold Own at this
            rw [hln] at this
            exact this
          have O := hide ho'
          have OF := hide ho
          have BT := hide hbt
          have s2 := hbt.size
          clear ho ho' hln hbt
          by_cases hltj : j < 16
          · have hltj' : (j : Int) < 16 := by omega
            have hix : (k : Int) * 16 + (j : Int) < (T.size : Int) := by rw [TZ.out]; omega
            have hix0 : (0 : Int) ≤ (k : Int) * 16 + (j : Int) := by omega
            have hixn : k * 16 + j < T.size := by rw [TZ.out]; omega
            obtain ⟨byt, hbz⟩ : ∃ byt, byt = T[k * 16 + j].toNat := ⟨_, rfl⟩
            have hb256 : byt < 256 := by rw [hbz]; exact (T[k * 16 + j]).toNat_lt
            have hbyt : byt = row.getD j 0 := by
              rw [hbz, RGk.out j hltj, ← TB2.out]
              exact (bs_getD T (k * 16 + j) hixn).symm
            have hbz' := hbz.symm
            have NXj : Hid (ci (row.take (j + 1)) = ci (row.take j) ++ [(byt : Int)]) := by
              show _ = _
              rw [take_snoc row j (by rw [RLk.out]; exact hltj), ← hbyt]
              simp [ci]
            clear hbz hbyt
            go_wp2_with (at_builtin; refine wpList_append_int1 rfl _ _ rfl Wr.heap.size _ j (ci (row.take j)) byt rfl (ownsRow_below O.out (below_box _ _)) wr.heap.size rfl (World.cell?_alloc_at _ _ _ _ (by simp)) (by omega) (by simp; omega) ?_)
            intro g4 c4 w4 o4 p4 q4 r4
            have HL4 : Hid ((ci (row.take (j + 1))).length = j + 1) := by show _ = _; rw [Gf.ci_length, List.length_take, RLk.out]; omega
            have O4 : Hid (Own w4 Wr.heap.size (.slice (some ⟨g4, 0, none⟩) (j + 1) c4) (ci (row.take (j + 1)))) := by
              show World.ownsRow _ _ _ _ _ (ci (row.take (j + 1))).length _
              rw [HL4.out, NXj.out, List.map_append]
              exact o4
            have B4 : Hid (Below Wr.heap.size Wr w4) := (BT.out.alloc BT.out.size _).grown p4 (by simp; omega) (fun z hz => (World.ownsRow.lt O.out z hz).1)
            clear o4 p4 q4 r4 O OF BT
            go_wp2
            go_roundw
            case rel => exact ⟨j + 1, by omega, by go_num, O4.out, B4.out⟩
            case measure => simp [intOf]; omega
          · obtain rfl : j = 16 := by omega
            have of2 := OF.out
            rw [List.take_of_length_le (by rw [RLk.out]; exact Nat.le_refl _)] at of2
            have OF2 := hide of2
            clear of2 OF O
            go_wp2_with (at_builtin; refine wpList_append_row rfl _ _ rfl w.heap.size Wr.heap.size _ vs (D.take k) rfl M.out (BT.out.alloc BT.out.size _) _ _ (OF2.out.below ((Below.refl _ _).alloc (Nat.le_refl _) _)) (Nat.le_refl _) s1 _ rfl (World.cell?_alloc_at _ _ _ _ (by simp)) (by simp; omega) ?_)
            intro v2 w2 hM2 hB2
            rw [← NX.out] at hM2
            have M2 := hide hM2
            have B2 := hide (B.out.trans hB2)
            clear hM2 hB2
            go_wp2
            go_roundw
            case rel => exact ⟨k + 1, _, by omega, by go_num, M2.out, B2.out⟩
            case measure => simp [intOf]; omega
      · obtain rfl : k = 3 := by omega
        have m2 := M.out
        rw [List.take_of_length_le (by rw [DL.out]; exact Nat.le_refl _)] at m2
        have RM := hide m2.rd
        have C := hide (fun W v (hv : RdM W v D) => l3Encode_calls v D 2 W hv DO.out (by rw [DL.out]; omega) (by rw [DL.out]; omega) (by omega) (by omega))
        rw [DL.out] at C
        clear m2
        go_wp2_with fail
        refine (C.out _ _ RM.out).mono ?_
        rintro e w5 ⟨v5, rfl, m5, q5⟩
        have M5 := hide (m5.wider s1 (Nat.le_refl _))
        have B5 := hide (B.out.trans (q5.mono s1))
        clear m5 q5
        go_wp2
        go_ret
        exact ⟨_, rfl, M5.out, B5.out⟩

end Go.Proofs.YtbgadbokejaomaaGreatDoor

namespace Go.Proofs.YtbgadbokejaomaaGreatDoor
open Go.RowKit
set_option linter.unusedVariables false

end Go.Proofs.YtbgadbokejaomaaGreatDoor

namespace Go.Proofs.YtbgadbokejaomaaGreatDoor
open Go.RowKit
set_option linter.unusedVariables false

theorem getD_take (xs : List ByteArray) (n i : Nat) (h : i < n) (hn : n ≤ xs.length) : (xs.take n).getD i ⟨#[]⟩ = xs.getD i ⟨#[]⟩ := by
  rw [List.getD_eq_getElem?_getD, List.getD_eq_getElem?_getD, List.getElem?_take, if_pos h]
theorem RdT.cut {w : World} {a : Option Addr} {cap n m : Nat} {xs : List ByteArray} (h : RdT w (.slice a m cap) xs) (hn : n ≤ xs.length) : RdT w (.slice a n cap) (xs.take n) := by
  obtain ⟨a', cap', hv, h1, h2, h4, h3⟩ := h
  simp only [Value.slice.injEq] at hv
  obtain ⟨rfl, _, rfl⟩ := hv
  have el : (xs.take n).length = n := by rw [List.length_take]; omega
  refine ⟨a, cap, by rw [el], by rw [el]; omega, h2, fun s hs => h4 s (List.mem_of_mem_take hs), ?_⟩
  rcases h3 with h3 | ⟨b, off, rfl, hlt, hc⟩
  · left; subst h3; simp
  · right
    refine ⟨b, off, rfl, hlt, fun i hi => ?_⟩
    rw [el] at hi
    rw [getD_take xs n i hi hn]
    exact hc i (by omega)
end Go.Proofs.YtbgadbokejaomaaGreatDoor

namespace Go.Proofs.YtbgadbokejaomaaGreatDoor
open Go.RowKit
open Gf (ci nat)
set_option linter.unusedVariables false

set_option maxRecDepth 100000 in
set_option maxHeartbeats 800000 in
theorem l8Text_calls (v : Value) (l : List Nat) (w : World) (h : Rd w v (ci l)) (hl : ∀ b ∈ l, b < 256) (hn : l.length ≤ 4096) :
    Calls Tryz.prog 140 #[v] w fun e w' => e = .returned (.string (ofN l)) ∧ Below w.heap.size w w' := by
  obtain ⟨a, cap, hv, m1, m2, m3⟩ := h
  rw [Gf.ci_length] at hv m3
  subst hv
  have M3 := hide m3
  have HL := hide hl
  clear m1 m2 m3 hl
  go_enter Tryz.func140, Tryz.ntmps140
  go_wp2
  go_loopw [3, 5, 8] (fun vs _ vi wr => ∃ k : Nat, k ≤ l.length ∧ vi = .int .i64 k ∧ vs = .string (ofN (l.take k)) ∧ Below w.heap.size w wr) (fun _ _ vi _ => l.length - (intOf vi).toNat)
  case atStart => exact ⟨0, Nat.zero_le _, rfl, rfl, Below.refl _ _⟩
  case round =>
    obtain ⟨k, hk, rfl, rfl, hb⟩ := hrel
    have HB := hide hb
    by_cases hlt : k < l.length
    · have hlt' : (k : Int) < (l.length : Int) := by omega
      rcases M3.out with h3 | ⟨b, off, rfl, hbs, hc⟩
      · have : l = [] := by simpa [ci] using h3
        rw [this] at hlt
        simp at hlt
      have hck : wr.cell? ⟨b, off + k, none⟩ = some (.int .i64 ((l.getD k 0 : Nat) : Int)) := by
        rw [← Gf.ci_getD]
        exact (hb.cell (p := ⟨b, off + k, none⟩) hbs).trans (hc k hlt)
      have hx256 : l.getD k 0 < 256 := by
        rw [List.getD_eq_getElem?_getD, List.getElem?_eq_getElem hlt]
        exact HL.out _ (List.getElem_mem hlt)
      have NX : Hid (ofN (l.take (k + 1)) = ofN (l.take k) ++ ofN [l.getD k 0]) := by
        show _ = _
        rw [ofN_append, take_snoc l k hlt]
      have tsz : (ofN (l.take k)).size ≤ 4096 := by rw [ofN_size, List.length_take]; omega
      generalize l.getD k 0 = x at hck hx256 NX
      generalize ofN (l.take k) = tt at NX tsz ⊢
      have hbt := byte_text x hx256 wr
      have hadd := run_string_add_sum (P := Tryz.prog) (w := wr.alloc (.cells #[.int .u8 (x : Int)] 5)) tt (ofN [x]) (by rw [ofN_size]; simp; omega)
      have HB2 := hide (HB.out.alloc HB.out.size (.cells #[.int .u8 (x : Int)] 5))
      clear hc hb
      go_wp2
      go_roundw
      case rel => exact ⟨k + 1, by omega, by go_num, by rw [NX.out], HB2.out⟩
      case measure => simp [intOf]; omega
    · obtain rfl : k = l.length := by omega
      rw [List.take_of_length_le (Nat.le_refl _)]
      clear hb
      go_wp2
      go_ret
      exact ⟨rfl, HB.out⟩
end Go.Proofs.YtbgadbokejaomaaGreatDoor

namespace Go.Proofs.YtbgadbokejaomaaGreatDoor
open Go.RowKit

end Go.Proofs.YtbgadbokejaomaaGreatDoor

namespace Go.Proofs.YtbgadbokejaomaaGreatDoor
open Go.RowKit

theorem RdM.at {w : World} {a : Option Addr} {n cap : Nat} {m : List (List Int)} (h : RdM w (.slice a n cap) m) (i : Nat) (hi : i < m.length) :
    ∃ b off u, a = some ⟨b, off, none⟩ ∧ b < w.heap.size ∧ w.cell? ⟨b, off + i, none⟩ = some u ∧ Rd w u (m.getD i []) := by
  obtain ⟨a', cap', hv, _, _, h3⟩ := h
  simp only [Value.slice.injEq] at hv
  obtain ⟨rfl, rfl, rfl⟩ := hv
  rcases h3 with h3 | ⟨b, off, rfl, hlt, hc⟩
  · subst h3; simp at hi
  · obtain ⟨u, hu, hr⟩ := hc i hi
    exact ⟨b, off, u, rfl, hlt, hu, hr⟩
end Go.Proofs.YtbgadbokejaomaaGreatDoor

namespace Go.Proofs.YtbgadbokejaomaaGreatDoor
open Go.RowKit

end Go.Proofs.YtbgadbokejaomaaGreatDoor

namespace Go.Proofs.YtbgadbokejaomaaGreatDoor
open Go.RowKit

end Go.Proofs.YtbgadbokejaomaaGreatDoor

namespace Go.Proofs.YtbgadbokejaomaaGreatDoor
open Go.RowKit
open Gf (ci nat)
set_option linter.unusedVariables false

/-- The bytes of the first three rows. -/
def tfL (m : List (List Int)) : List Nat := (m.take 3).flatMap nat
/-- Rows of sixteen elements, five of them. -/
structure R16 (m : List (List Int)) : Prop where
  len : m.length = 5
  row : ∀ i, i < 5 → (m.getD i []).length = 16 ∧ (m.getD i []).all Gf.elOk = true
theorem R16.nats {m : List (List Int)} (h : R16 m) (i : Nat) (hi : i < 5) : (nat (m.getD i [])).length = 16 ∧ (∀ b ∈ nat (m.getD i []), b < 256) ∧ ci (nat (m.getD i [])) = m.getD i [] := by
  obtain ⟨h1, h2⟩ := h.row i hi
  refine ⟨by rw [Gf.nat_length]; exact h1, fun b hb => ?_, Gf.ci_nat h2⟩
  unfold nat at hb
  obtain ⟨x, hx, rfl⟩ := List.mem_map.1 hb
  have := Gf.elOk_iff.1 (List.all_eq_true.1 h2 x hx)
  omega
theorem R16.three {m : List (List Int)} (h : R16 m) : m.take 3 = [m.getD 0 [], m.getD 1 [], m.getD 2 []] := by
  have hl := h.len
  match m, hl with
  | [a, b, c, d, e], _ => rfl
theorem R16.L {m : List (List Int)} (h : R16 m) : tfL m = nat (m.getD 0 []) ++ (nat (m.getD 1 []) ++ nat (m.getD 2 [])) := by
  unfold tfL
  rw [h.three]
  simp
theorem R16.small {m : List (List Int)} (h : R16 m) : ∀ b ∈ tfL m, b < 256 := by
  intro b hb
  rw [h.L] at hb
  rcases List.mem_append.1 hb with hb | hb
  · exact (h.nats 0 (by omega)).2.1 b hb
  · rcases List.mem_append.1 hb with hb | hb
    · exact (h.nats 1 (by omega)).2.1 b hb
    · exact (h.nats 2 (by omega)).2.1 b hb
theorem toList_eq {s t : ByteArray} (h : s = t) : s.toList = t.toList := by rw [h]

end Go.Proofs.YtbgadbokejaomaaGreatDoor

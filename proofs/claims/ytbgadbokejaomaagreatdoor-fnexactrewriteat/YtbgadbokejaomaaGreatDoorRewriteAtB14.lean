/-
  A frame's bytes: the model's functions, call by call. No condition but a bound on the body's length.
-/
import Derived.Test.YtbgadbokejaomaaGreatDoorRewriteAtB3
import Derived.Deep.RegionHeld3
import Derived.Deep.OwnRows
namespace Go.Proofs.YtbgadbokejaomaaGreatDoor
open Go.RowKit

/-- A stronger condition on worlds may be held from here on. -/
theorem wpAnyH_imp {P : Program} {md : Region.Mode} {ops : Array Oper} {Q : Exit → Act → World → Prop} {S S' : World → Prop} (hS : ∀ w, S' w → S w) : ∀ (fuel : Nat) (listed : Array Bool) (a : Act) (w : World),
    wpAnyH P md ops Q S' fuel listed a w → wpAnyH P md ops Q S fuel listed a w
  | 0, _, _, _, h => h
  | fuel + 1, _, _, _, h => ⟨h.1, fun i hi => wpOp_mono (fun _ _ h2 => ⟨hS _ h2.1, wpAnyH_imp hS fuel _ _ _ h2.2⟩) (h.2 i hi)⟩

theorem headB_parts (k a e : Nat) (b : ByteArray) (hk : k < 256) (ha : a < 65536) (he : e < 65536) (h : b.size ≤ 16) :
    ofN (hiB k 1) ++ ofN (hiB a 2) ++ ofN (hiB e 2) ++ ofN (hiB b.size 1) ++ b ++ zst (16 - b.size + 2) = ofN (headB k a e (bs b)) := by
  have e1 : zst (16 - b.size + 2) = ofN (List.replicate (18 - b.size) 0) := by
    have := ofN_bs (zst (16 - b.size + 2))
    rw [bs_zst] at this
    rw [← this]
    congr 2
    omega
  have e2 : b = ofN (bs b) := (ofN_bs b).symm
  rw [e1]
  conv => lhs; rw [show (ofN (hiB k 1) ++ ofN (hiB a 2) ++ ofN (hiB e 2) ++ ofN (hiB b.size 1) ++ b) = (ofN (hiB k 1) ++ ofN (hiB a 2) ++ ofN (hiB e 2) ++ ofN (hiB b.size 1) ++ ofN (bs b)) by rw [← e2]]
  rw [ofN_append, ofN_append, ofN_append, ofN_append, ofN_append]
  congr 1
  unfold headB
  rw [bs_length]
  have k1 : hiB k 1 = [k] := by simp [hiB]; omega
  have a1 : hiB a 2 = [a / 256, a % 256] := by simp [hiB]; omega
  have c1 : hiB e 2 = [e / 256, e % 256] := by simp [hiB]; omega
  have b1 : hiB b.size 1 = [b.size] := by simp [hiB]; omega
  rw [k1, a1, c1, b1]
  simp
theorem hi1_calls (n : Nat) (w : World) (hn : n < 4294967296) : Calls Tryz.prog 137 #[.int .i64 n, .int .i64 1] w fun e w' => e = .returned (.string (ofN (hiB n 1))) ∧ Below w.heap.size w w' := l6Bytes_calls n 1 w hn (by omega)
theorem hi2_calls (n : Nat) (w : World) (hn : n < 4294967296) : Calls Tryz.prog 137 #[.int .i64 n, .int .i64 2] w fun e w' => e = .returned (.string (ofN (hiB n 2))) ∧ Below w.heap.size w w' := l6Bytes_calls n 2 w hn (by omega)

set_option linter.unusedSimpArgs false in
set_option maxRecDepth 100000 in
set_option maxHeartbeats 3200000 in
theorem l6Frame_calls (k a e : Nat) (b : ByteArray) (w : World) (hk : k < 256) (ha : a < 65536) (he : e < 65536) (hb : b.size ≤ 16) :
    Calls Tryz.prog 139 #[.agg #[.int .i64 k, .int .i64 a, .int .i64 e, .string b]] w fun e' w' => e' = .returned (.string (ofN (frB k a e (bs b)))) ∧ Below w.heap.size w w' := by
  have B0 := hide (below_box w (.cells #[.int .i64 k, .int .i64 a, .int .i64 e, .string b] 160))
  have F : Hid (∀ w1, Below (w.alloc (.cells #[.int .i64 k, .int .i64 a, .int .i64 e, .string b] 160)).heap.size (w.alloc (.cells #[.int .i64 k, .int .i64 a, .int .i64 e, .string b] 160)) w1 →
      w1.cell? ⟨w.heap.size, 0, none⟩ = some (.int .i64 k) ∧ w1.cell? ⟨w.heap.size, 1, none⟩ = some (.int .i64 a) ∧ w1.cell? ⟨w.heap.size, 2, none⟩ = some (.int .i64 e) ∧ w1.cell? ⟨w.heap.size, 3, none⟩ = some (.string b)) :=
    fun w1 h => ⟨box_cell0 h 0, box_cell0 h 1, box_cell0 h 2, box_cell0 h 3⟩
  have hp := headB_parts k a e b hk ha he hb
  have hs1 : (ofN (hiB k 1)).size = 1 := by rw [ofN_size, hiB_length]
  have hs2 : (ofN (hiB a 2)).size = 2 := by rw [ofN_size, hiB_length]
  have hs3 : (ofN (hiB e 2)).size = 2 := by rw [ofN_size, hiB_length]
  have hs4 : (ofN (hiB b.size 1)).size = 1 := by rw [ofN_size, hiB_length]
  have C1 := hide (fun W => hi1_calls k W (by omega))
  have C2 := hide (fun W => hi2_calls a W (by omega))
  have C3 := hide (fun W => hi2_calls e W (by omega))
  have C4 := hide (fun W => hi1_calls b.size W (by omega))
  generalize ofN (hiB k 1) = T1 at hp hs1 C1
  generalize ofN (hiB a 2) = T2 at hp hs2 C2
  generalize ofN (hiB e 2) = T3 at hp hs3 C3
  generalize ofN (hiB b.size 1) = T4 at hp hs4 C4
  have e18 : 16 - b.size + 2 = 18 - b.size := by omega
  rw [e18] at hp
  have CV : Hid (∀ W W' : World, Below (W.alloc (.cells (madeCells #[.int .u8 0] (18 - b.size)) 5)).heap.size (W.alloc (.cells (madeCells #[.int .u8 0] (18 - b.size)) 5)) W' →
      (convert 56 9 (.slice (some ⟨W.heap.size, 0, none⟩) (18 - b.size) (18 - b.size))).run Tryz.prog W' = .ok (.string (zst (18 - b.size))) W') := by
    show ∀ W W' : World, _
    intro W W' h
    have hz : ZRow W' W.heap.size (List.replicate (18 - b.size) 0) := by
      unfold ZRow
      rw [h.block W.heap.size (by simp), heap_alloc_new]
      congr 2
      apply Array.ext'
      rw [toList_madeCells_one]
      simp [u8v]
    have := hz.conv (n := 18 - b.size) (cap := 18 - b.size) (fun y hy => by have := (List.mem_replicate.1 hy).2; omega) (by simp)
    rw [List.take_of_length_le (by simp)] at this
    rw [this]
    congr 2
    apply bs_inj
    rw [bs_zst, bs_ofN (fun y hy => by have := (List.mem_replicate.1 hy).2; omega)]
  have hz6 : (zst (18 - b.size)).size = 18 - b.size := zst_size _
  have A1 := fun W : World => run_string_add_sum (P := Tryz.prog) (w := W) T1 T2 (by omega)
  have A2 := fun W : World => run_string_add_sum (P := Tryz.prog) (w := W) (T1 ++ T2) T3 (by rw [ByteArray.size_append]; omega)
  have A3 := fun W : World => run_string_add_sum (P := Tryz.prog) (w := W) (T1 ++ T2 ++ T3) T4 (by rw [ByteArray.size_append, ByteArray.size_append]; omega)
  have A4 := fun W : World => run_string_add_sum (P := Tryz.prog) (w := W) (T1 ++ T2 ++ T3 ++ T4) b (by rw [ByteArray.size_append, ByteArray.size_append, ByteArray.size_append]; omega)
  have A5 := fun W : World => run_string_add_sum (P := Tryz.prog) (w := W) (T1 ++ T2 ++ T3 ++ T4 ++ b) (zst (18 - b.size)) (by rw [ByteArray.size_append, ByteArray.size_append, ByteArray.size_append, ByteArray.size_append, hz6]; omega)
  have hmk : ∀ W : World, (Instr.makeSlice 56 (.int .i64 (16 - (b.size : Int) + 2)) (.int .i64 (16 - (b.size : Int) + 2))).run Tryz.prog W = .ok (.slice (some ⟨W.heap.size, 0, none⟩) (18 - b.size) (18 - b.size)) (W.alloc (.cells (madeCells #[.int .u8 0] (18 - b.size)) 5)) := by
    intro W
    have e1 : (16 - (b.size : Int) + 2) = ((18 - b.size : Nat) : Int) := by omega
    rw [e1]
    exact run_make_row' (P := Tryz.prog) 56 5 (.int .u8 0) 1 Tryz.underlying56 infoByte rfl .i64 .i64 (18 - b.size) (by omega) (by omega) W
  have hw1 : IntKind.i64.wrap (16 - (b.size : Int)) = 16 - (b.size : Int) := by rw [IntKind.wrap_i64]; omega
  have hw2 : IntKind.i64.wrap (16 - (b.size : Int) + 2) = 16 - (b.size : Int) + 2 := by rw [IntKind.wrap_i64]; omega
  have hl16 : (bs b).length ≤ 16 := by rw [bs_length]; exact hb
  have hh := headB_small (K := k) (A := a) (E := e) hk ha he hl16 (bs_lt b)
  have OB : Hid (bs (ofN (headB k a e (bs b))) = headB k a e (bs b)) := bs_ofN hh
  have N24 : (ofN (headB k a e (bs b))).size ≤ 1048576 := by rw [ofN_size, headB_length hl16]; omega
  have LT : Crc.on 0 (headB k a e (bs b)) < 4294967296 := Crc.on_lt (by decide) hh
  have A6 := fun W : World => run_string_add_sum (P := Tryz.prog) (w := W) (ofN (headB k a e (bs b))) (ofN (low4 (Crc.on 0 (headB k a e (bs b))))) (by rw [ofN_size, ofN_size, headB_length hl16, low4_length]; omega)
  clear hl16 hh
  have HP := hide hp
  clear hp hs1 hs2 hs3 hs4 e18 hz6
  go_enter Tryz.func139, Tryz.ntmps139
  go_wp2
  generalize w.alloc (.cells #[.int .i64 k, .int .i64 a, .int .i64 e, .string b] 160) = w0 at B0 F ⊢
  have S0 := hide (Below.refl w0.heap.size w0).drew
  refine wp_region_noPanic ?_
  refine wp_region_held_drew (S := fun w' => w'.cell? ⟨w.heap.size, 0, none⟩ = some (.int .i64 k) ∧ w'.cell? ⟨w.heap.size, 1, none⟩ = some (.int .i64 a) ∧ w'.cell? ⟨w.heap.size, 2, none⟩ = some (.int .i64 e) ∧ w'.cell? ⟨w.heap.size, 3, none⟩ = some (.string b)) (by kernel_rfl) (F.out _ S0.out) (fun hHeld => ?_)
  generalize w0.drew = W0 at S0 hHeld ⊢
  refine wpAnyH_take (i := 0) (v := ?v1) rfl (by kernel_rfl) (by kernel_rfl) (by kernel_rfl) (fun _ _ _ h => h) (Or.inl ⟨by rfl, ?hy1⟩) (by assumption) ?rest1
  case hy1 => (intro w' hSw; dsimp only [List.getElem_toArray, List.getElem_cons_zero, List.getElem_cons_succ] at hSw ⊢; go_simp; try (with_reducible rfl))
  try simp only [Act.put, List.getElem_toArray, List.getElem_cons_zero, List.getElem_cons_succ, List.setIfInBounds_toArray, List.set_cons_zero, List.set_cons_succ]
  refine wpAnyH_take (i := 1) (v := ?v2) rfl (by kernel_rfl) (by kernel_rfl) (by kernel_rfl) (fun _ _ _ h => h) (Or.inl ⟨by rfl, ?hy2⟩) (by assumption) ?rest2
  case hy2 => (intro w' hSw; dsimp only [List.getElem_toArray, List.getElem_cons_zero, List.getElem_cons_succ] at hSw ⊢; go_simp; try (with_reducible rfl))
  try simp only [Act.put, List.getElem_toArray, List.getElem_cons_zero, List.getElem_cons_succ, List.setIfInBounds_toArray, List.set_cons_zero, List.set_cons_succ]
  refine wpAnyH_take (i := 3) (v := ?v3) rfl (by kernel_rfl) (by kernel_rfl) (by kernel_rfl) (fun _ _ _ h => h) (Or.inl ⟨by rfl, ?hy3⟩) (by assumption) ?rest3
  case hy3 => (intro w' hSw; dsimp only [List.getElem_toArray, List.getElem_cons_zero, List.getElem_cons_succ] at hSw ⊢; go_simp; try (with_reducible rfl))
  try simp only [Act.put, List.getElem_toArray, List.getElem_cons_zero, List.getElem_cons_succ, List.setIfInBounds_toArray, List.set_cons_zero, List.set_cons_succ]
  refine wpAnyH_take (i := 4) (v := ?v4) rfl (by kernel_rfl) (by kernel_rfl) (by kernel_rfl) (fun _ _ _ h => h) (Or.inl ⟨by rfl, ?hy4⟩) (by assumption) ?rest4
  case hy4 => (intro w' hSw; dsimp only [List.getElem_toArray, List.getElem_cons_zero, List.getElem_cons_succ] at hSw ⊢; go_simp; try (with_reducible rfl))
  try simp only [Act.put, List.getElem_toArray, List.getElem_cons_zero, List.getElem_cons_succ, List.setIfInBounds_toArray, List.set_cons_zero, List.set_cons_succ]
  refine wpAnyH_take (i := 7) (v := ?v5) rfl (by kernel_rfl) (by kernel_rfl) (by kernel_rfl) (fun _ _ _ h => h) (Or.inl ⟨by rfl, ?hy5⟩) (by assumption) ?rest5
  case hy5 => (intro w' hSw; dsimp only [List.getElem_toArray, List.getElem_cons_zero, List.getElem_cons_succ] at hSw ⊢; go_simp; try (with_reducible rfl))
  try simp only [Act.put, List.getElem_toArray, List.getElem_cons_zero, List.getElem_cons_succ, List.setIfInBounds_toArray, List.set_cons_zero, List.set_cons_succ]
  refine wpAnyH_take (i := 8) (v := ?v6) rfl (by kernel_rfl) (by kernel_rfl) (by kernel_rfl) (fun _ _ _ h => h) (Or.inl ⟨by rfl, ?hy6⟩) (by assumption) ?rest6
  case hy6 => (intro w' hSw; dsimp only [List.getElem_toArray, List.getElem_cons_zero, List.getElem_cons_succ] at hSw ⊢; go_simp; try (with_reducible rfl))
  try simp only [Act.put, List.getElem_toArray, List.getElem_cons_zero, List.getElem_cons_succ, List.setIfInBounds_toArray, List.set_cons_zero, List.set_cons_succ]
  refine wpAnyH_take (i := 11) (v := ?v7) rfl (by kernel_rfl) (by kernel_rfl) (by kernel_rfl) (fun _ _ _ h => h) (Or.inl ⟨by rfl, ?hy7⟩) (by assumption) ?rest7
  case hy7 => (intro w' hSw; dsimp only [List.getElem_toArray, List.getElem_cons_zero, List.getElem_cons_succ] at hSw ⊢; go_simp; try (with_reducible rfl))
  try simp only [Act.put, List.getElem_toArray, List.getElem_cons_zero, List.getElem_cons_succ, List.setIfInBounds_toArray, List.set_cons_zero, List.set_cons_succ]
  refine wpAnyH_take (i := 12) (v := ?v8) rfl (by kernel_rfl) (by kernel_rfl) (by kernel_rfl) (fun _ _ _ h => h) (Or.inl ⟨by rfl, ?hy8⟩) (by assumption) ?rest8
  case hy8 => (intro w' hSw; dsimp only [List.getElem_toArray, List.getElem_cons_zero, List.getElem_cons_succ] at hSw ⊢; go_simp; try (with_reducible rfl))
  try simp only [Act.put, List.getElem_toArray, List.getElem_cons_zero, List.getElem_cons_succ, List.setIfInBounds_toArray, List.set_cons_zero, List.set_cons_succ]
  refine wpAnyH_take (i := 13) (v := ?v9) rfl (by kernel_rfl) (by kernel_rfl) (by kernel_rfl) (fun _ _ _ h => h) (Or.inl ⟨by rfl, ?hy9⟩) (by assumption) ?rest9
  case hy9 => (intro w' hSw; dsimp only [List.getElem_toArray, List.getElem_cons_zero, List.getElem_cons_succ] at hSw ⊢; go_simp; try (with_reducible rfl))
  try simp only [Act.put, List.getElem_toArray, List.getElem_cons_zero, List.getElem_cons_succ, List.setIfInBounds_toArray, List.set_cons_zero, List.set_cons_succ]
  refine wpAnyH_take (i := 16) (v := ?v10) rfl (by kernel_rfl) (by kernel_rfl) (by kernel_rfl) (fun _ _ _ h => h) (Or.inl ⟨by rfl, ?hy10⟩) (by assumption) ?rest10
  case hy10 => (intro w' hSw; dsimp only [List.getElem_toArray, List.getElem_cons_zero, List.getElem_cons_succ] at hSw ⊢; go_simp; try (with_reducible rfl))
  try simp only [Act.put, List.getElem_toArray, List.getElem_cons_zero, List.getElem_cons_succ, List.setIfInBounds_toArray, List.set_cons_zero, List.set_cons_succ]
  refine wpAnyH_take (i := 17) (v := ?v11) rfl (by kernel_rfl) (by kernel_rfl) (by kernel_rfl) (fun _ _ _ h => h) (Or.inl ⟨by rfl, ?hy11⟩) (by assumption) ?rest11
  case hy11 => (intro w' hSw; dsimp only [List.getElem_toArray, List.getElem_cons_zero, List.getElem_cons_succ] at hSw ⊢; go_simp; try (with_reducible rfl))
  try simp only [Act.put, List.getElem_toArray, List.getElem_cons_zero, List.getElem_cons_succ, List.setIfInBounds_toArray, List.set_cons_zero, List.set_cons_succ]
  refine wpAnyH_take (i := 19) (v := ?v12) rfl (by kernel_rfl) (by kernel_rfl) (by kernel_rfl) (fun _ _ _ h => h) (Or.inl ⟨by rfl, ?hy12⟩) (by assumption) ?rest12
  case hy12 => (intro w' hSw; dsimp only [List.getElem_toArray, List.getElem_cons_zero, List.getElem_cons_succ] at hSw ⊢; go_simp; try (with_reducible rfl))
  try simp only [Act.put, List.getElem_toArray, List.getElem_cons_zero, List.getElem_cons_succ, List.setIfInBounds_toArray, List.set_cons_zero, List.set_cons_succ]
  refine wpAnyH_take (i := 20) (v := ?v13) rfl (by kernel_rfl) (by kernel_rfl) (by kernel_rfl) (fun _ _ _ h => h) (Or.inl ⟨by rfl, ?hy13⟩) (by assumption) ?rest13
  case hy13 => (intro w' hSw; dsimp only [List.getElem_toArray, List.getElem_cons_zero, List.getElem_cons_succ] at hSw ⊢; go_simp; try (with_reducible rfl))
  try simp only [Act.put, List.getElem_toArray, List.getElem_cons_zero, List.getElem_cons_succ, List.setIfInBounds_toArray, List.set_cons_zero, List.set_cons_succ]
  refine wpAnyH_take (i := 21) (v := ?v14) rfl (by kernel_rfl) (by kernel_rfl) (by kernel_rfl) (fun _ _ _ h => h) (Or.inl ⟨by rfl, ?hy14⟩) (by assumption) ?rest14
  case hy14 => (intro w' hSw; dsimp only [List.getElem_toArray, List.getElem_cons_zero, List.getElem_cons_succ] at hSw ⊢; go_simp; try (with_reducible rfl))
  try simp only [Act.put, List.getElem_toArray, List.getElem_cons_zero, List.getElem_cons_succ, List.setIfInBounds_toArray, List.set_cons_zero, List.set_cons_succ]
  refine wpAnyH_take (i := 22) (v := ?v15) rfl (by kernel_rfl) (by kernel_rfl) (by kernel_rfl) (fun _ _ _ h => h) (Or.inl ⟨by rfl, ?hy15⟩) (by assumption) ?rest15
  case hy15 => (intro w' hSw; dsimp only [List.getElem_toArray, List.getElem_cons_zero, List.getElem_cons_succ] at hSw ⊢; go_simp; try (with_reducible rfl))
  try simp only [Act.put, List.getElem_toArray, List.getElem_cons_zero, List.getElem_cons_succ, List.setIfInBounds_toArray, List.set_cons_zero, List.set_cons_succ]
  refine wpAnyH_take (i := 23) (v := ?v16) rfl (by kernel_rfl) (by kernel_rfl) (by kernel_rfl) (fun _ _ _ h => h) (Or.inl ⟨by rfl, ?hy16⟩) (by assumption) ?rest16
  case hy16 => (intro w' hSw; dsimp only [List.getElem_toArray, List.getElem_cons_zero, List.getElem_cons_succ] at hSw ⊢; go_simp; try (with_reducible rfl))
  try simp only [Act.put, List.getElem_toArray, List.getElem_cons_zero, List.getElem_cons_succ, List.setIfInBounds_toArray, List.set_cons_zero, List.set_cons_succ]
  refine wpAnyH_ready (rs := [2, 24]) (by kernel_rfl) (by simp) ?_
  refine AllReadyH.cons rfl (fun K hK => ?_) (AllReadyH.cons rfl (fun K hK => ?_) AllReadyH.nil)
  · dsimp only [List.getElem_toArray, List.getElem_cons_zero, List.getElem_cons_succ]
    go_simp
    refine (C1.out _).mono ?_
    rintro e' w1 ⟨rfl, bb⟩
    have S1 := hide (S0.out.trans (bb.mono S0.out.size))
    clear bb hHeld
    refine hK.out _ _ (F.out _ S1.out) (fun hHeld => ?_)
    clear hK K
    try simp only [Act.put, List.getElem_toArray, List.getElem_cons_zero, List.getElem_cons_succ, List.setIfInBounds_toArray, List.set_cons_zero, List.set_cons_succ]
    refine wpAnyH_ready (rs := [5, 24]) (by kernel_rfl) (by simp) ?_
    refine AllReadyH.cons rfl (fun K hK => ?_) (AllReadyH.cons rfl (fun K hK => ?_) AllReadyH.nil)
    · dsimp only [List.getElem_toArray, List.getElem_cons_zero, List.getElem_cons_succ]
      go_simp
      refine (C2.out _).mono ?_
      rintro e' w2 ⟨rfl, bb⟩
      have S2 := hide (S1.out.trans (bb.mono S1.out.size))
      clear bb hHeld
      refine hK.out _ _ (F.out _ S2.out) (fun hHeld => ?_)
      clear hK K
      try simp only [Act.put, List.getElem_toArray, List.getElem_cons_zero, List.getElem_cons_succ, List.setIfInBounds_toArray, List.set_cons_zero, List.set_cons_succ]
      refine wpAnyH_take (i := 6) (v := ?v17) rfl (by kernel_rfl) (by kernel_rfl) (by kernel_rfl) (fun _ _ _ h => h) (Or.inl ⟨by rfl, ?hy17⟩) (by assumption) ?rest17
      case hy17 => (intro w' hSw; dsimp only [List.getElem_toArray, List.getElem_cons_zero, List.getElem_cons_succ] at hSw ⊢; go_simp; try (with_reducible rfl))
      try simp only [Act.put, List.getElem_toArray, List.getElem_cons_zero, List.getElem_cons_succ, List.setIfInBounds_toArray, List.set_cons_zero, List.set_cons_succ]
      refine wpAnyH_ready (rs := [9, 24]) (by kernel_rfl) (by simp) ?_
      refine AllReadyH.cons rfl (fun K hK => ?_) (AllReadyH.cons rfl (fun K hK => ?_) AllReadyH.nil)
      · dsimp only [List.getElem_toArray, List.getElem_cons_zero, List.getElem_cons_succ]
        go_simp
        refine (C3.out _).mono ?_
        rintro e' w3 ⟨rfl, bb⟩
        have S3 := hide (S2.out.trans (bb.mono S2.out.size))
        clear bb hHeld
        refine hK.out _ _ (F.out _ S3.out) (fun hHeld => ?_)
        clear hK K
        try simp only [Act.put, List.getElem_toArray, List.getElem_cons_zero, List.getElem_cons_succ, List.setIfInBounds_toArray, List.set_cons_zero, List.set_cons_succ]
        refine wpAnyH_take (i := 10) (v := ?v18) rfl (by kernel_rfl) (by kernel_rfl) (by kernel_rfl) (fun _ _ _ h => h) (Or.inl ⟨by rfl, ?hy18⟩) (by assumption) ?rest18
        case hy18 => (intro w' hSw; dsimp only [List.getElem_toArray, List.getElem_cons_zero, List.getElem_cons_succ] at hSw ⊢; go_simp; try (with_reducible rfl))
        try simp only [Act.put, List.getElem_toArray, List.getElem_cons_zero, List.getElem_cons_succ, List.setIfInBounds_toArray, List.set_cons_zero, List.set_cons_succ]
        refine wpAnyH_ready (rs := [14, 24]) (by kernel_rfl) (by simp) ?_
        refine AllReadyH.cons rfl (fun K hK => ?_) (AllReadyH.cons rfl (fun K hK => ?_) AllReadyH.nil)
        · dsimp only [List.getElem_toArray, List.getElem_cons_zero, List.getElem_cons_succ]
          go_simp
          refine (C4.out _).mono ?_
          rintro e' w4 ⟨rfl, bb⟩
          have S4 := hide (S3.out.trans (bb.mono S3.out.size))
          clear bb hHeld
          refine hK.out _ _ (F.out _ S4.out) (fun hHeld => ?_)
          clear hK K
          try simp only [Act.put, List.getElem_toArray, List.getElem_cons_zero, List.getElem_cons_succ, List.setIfInBounds_toArray, List.set_cons_zero, List.set_cons_succ]
          refine wpAnyH_take (i := 15) (v := ?v19) rfl (by kernel_rfl) (by kernel_rfl) (by kernel_rfl) (fun _ _ _ h => h) (Or.inl ⟨by rfl, ?hy19⟩) (by assumption) ?rest19
          case hy19 => (intro w' hSw; dsimp only [List.getElem_toArray, List.getElem_cons_zero, List.getElem_cons_succ] at hSw ⊢; go_simp; try (with_reducible rfl))
          try simp only [Act.put, List.getElem_toArray, List.getElem_cons_zero, List.getElem_cons_succ, List.setIfInBounds_toArray, List.set_cons_zero, List.set_cons_succ]
          refine wpAnyH_take (i := 18) (v := ?v20) rfl (by kernel_rfl) (by kernel_rfl) (by kernel_rfl) (fun _ _ _ h => h) (Or.inl ⟨by rfl, ?hy20⟩) (by assumption) ?rest20
          case hy20 => (intro w' hSw; dsimp only [List.getElem_toArray, List.getElem_cons_zero, List.getElem_cons_succ] at hSw ⊢; go_simp; try (with_reducible rfl))
          try simp only [Act.put, List.getElem_toArray, List.getElem_cons_zero, List.getElem_cons_succ, List.setIfInBounds_toArray, List.set_cons_zero, List.set_cons_succ]
          refine wpAnyH_ready (rs := [24]) (by kernel_rfl) (by simp) ?_
          refine AllReadyH.cons rfl (fun K hK => ?_) AllReadyH.nil
          dsimp only [List.getElem_toArray, List.getElem_cons_zero, List.getElem_cons_succ]
          go_simp
          refine hK.out _ _ (F.out _ (S4.out.alloc S4.out.size (.cells (madeCells #[.int .u8 0] (18 - b.size)) 5))) (fun hHeld => ?_)
          clear hK K hHeld
          refine wpAnyH_imp (S' := fun w' => (w'.cell? ⟨w.heap.size, 0, none⟩ = some (.int .i64 k) ∧ w'.cell? ⟨w.heap.size, 1, none⟩ = some (.int .i64 a) ∧ w'.cell? ⟨w.heap.size, 2, none⟩ = some (.int .i64 e) ∧ w'.cell? ⟨w.heap.size, 3, none⟩ = some (.string b)) ∧ (convert 56 9 (.slice (some ⟨w4.heap.size, 0, none⟩) (18 - b.size) (18 - b.size))).run Tryz.prog w' = .ok (.string (zst (18 - b.size))) w') (fun _ h => h.1) _ _ _ _ ?_
          have M4 := hide (Below.refl (w4.alloc (.cells (madeCells #[.int .u8 0] (18 - b.size)) 5)).heap.size (w4.alloc (.cells (madeCells #[.int .u8 0] (18 - b.size)) 5)))
          have hHeld : (fun w' : World => (w'.cell? ⟨w.heap.size, 0, none⟩ = some (.int .i64 k) ∧ w'.cell? ⟨w.heap.size, 1, none⟩ = some (.int .i64 a) ∧ w'.cell? ⟨w.heap.size, 2, none⟩ = some (.int .i64 e) ∧ w'.cell? ⟨w.heap.size, 3, none⟩ = some (.string b)) ∧ (convert 56 9 (.slice (some ⟨w4.heap.size, 0, none⟩) (18 - b.size) (18 - b.size))).run Tryz.prog w' = .ok (.string (zst (18 - b.size))) w') (w4.alloc (.cells (madeCells #[.int .u8 0] (18 - b.size)) 5)) := ⟨F.out _ (S4.out.alloc S4.out.size (.cells (madeCells #[.int .u8 0] (18 - b.size)) 5)), CV.out _ _ M4.out⟩
          try simp only [Act.put, List.getElem_toArray, List.getElem_cons_zero, List.getElem_cons_succ, List.setIfInBounds_toArray, List.set_cons_zero, List.set_cons_succ]
          refine wpAnyH_take (i := 25) (v := ?v21) rfl (by kernel_rfl) (by kernel_rfl) (by kernel_rfl) (fun _ _ _ h => h) (Or.inl ⟨by rfl, ?hy21⟩) (by assumption) ?rest21
          case hy21 => (intro w' hSw; dsimp only [List.getElem_toArray, List.getElem_cons_zero, List.getElem_cons_succ] at hSw ⊢; go_simp; try (with_reducible rfl))
          try simp only [Act.put, List.getElem_toArray, List.getElem_cons_zero, List.getElem_cons_succ, List.setIfInBounds_toArray, List.set_cons_zero, List.set_cons_succ]
          refine wpAnyH_take (i := 26) (v := ?v22) rfl (by kernel_rfl) (by kernel_rfl) (by kernel_rfl) (fun _ _ _ h => h) (Or.inl ⟨by rfl, ?hy22⟩) (by assumption) ?rest22
          case hy22 => (intro w' hSw; dsimp only [List.getElem_toArray, List.getElem_cons_zero, List.getElem_cons_succ] at hSw ⊢; go_simp; try (with_reducible rfl))
          try simp only [Act.put, List.getElem_toArray, List.getElem_cons_zero, List.getElem_cons_succ, List.setIfInBounds_toArray, List.set_cons_zero, List.set_cons_succ]
          refine wpAnyH_take (i := 27) (v := ?v23) rfl (by kernel_rfl) (by kernel_rfl) (by kernel_rfl) (fun _ _ _ h => h) (Or.inl ⟨by rfl, ?hy23⟩) (by assumption) ?rest23
          case hy23 => (intro w' hSw; dsimp only [List.getElem_toArray, List.getElem_cons_zero, List.getElem_cons_succ] at hSw ⊢; go_simp; try (with_reducible rfl))
          try simp only [Act.put, List.getElem_toArray, List.getElem_cons_zero, List.getElem_cons_succ, List.setIfInBounds_toArray, List.set_cons_zero, List.set_cons_succ]
          refine wpAnyH_done (by kernel_rfl) ?_ _
          refine NoPanic.normal ?_
          rw [HP.out]
          go_wp2_with fail
          refine (l5On_calls 0 _ _ (by decide) N24).mono ?_
          rintro e' w' ⟨rfl, rfl⟩
          rw [OB.out]
          go_wp2_with fail
          refine (l6Low_calls _ _ LT).mono ?_
          rintro e' w5 ⟨rfl, b5⟩
          have S5 := hide ((S4.out.alloc S4.out.size (.cells (madeCells #[.int .u8 0] (18 - b.size)) 5)).trans (b5.mono (S4.out.alloc S4.out.size (.cells (madeCells #[.int .u8 0] (18 - b.size)) 5)).size))
          clear b5
          go_wp2
          go_ret
          exact ⟨by rw [ofN_append]; rfl, B0.out.trans (S5.out.mono B0.out.size)⟩
        · dsimp only [List.getElem_toArray, List.getElem_cons_zero, List.getElem_cons_succ]
          go_simp
          refine hK.out _ _ (F.out _ (S3.out.alloc S3.out.size (.cells (madeCells #[.int .u8 0] (18 - b.size)) 5))) (fun hHeld => ?_)
          clear hK K hHeld
          refine wpAnyH_imp (S' := fun w' => (w'.cell? ⟨w.heap.size, 0, none⟩ = some (.int .i64 k) ∧ w'.cell? ⟨w.heap.size, 1, none⟩ = some (.int .i64 a) ∧ w'.cell? ⟨w.heap.size, 2, none⟩ = some (.int .i64 e) ∧ w'.cell? ⟨w.heap.size, 3, none⟩ = some (.string b)) ∧ (convert 56 9 (.slice (some ⟨w3.heap.size, 0, none⟩) (18 - b.size) (18 - b.size))).run Tryz.prog w' = .ok (.string (zst (18 - b.size))) w') (fun _ h => h.1) _ _ _ _ ?_
          have M3 := hide (Below.refl (w3.alloc (.cells (madeCells #[.int .u8 0] (18 - b.size)) 5)).heap.size (w3.alloc (.cells (madeCells #[.int .u8 0] (18 - b.size)) 5)))
          have hHeld : (fun w' : World => (w'.cell? ⟨w.heap.size, 0, none⟩ = some (.int .i64 k) ∧ w'.cell? ⟨w.heap.size, 1, none⟩ = some (.int .i64 a) ∧ w'.cell? ⟨w.heap.size, 2, none⟩ = some (.int .i64 e) ∧ w'.cell? ⟨w.heap.size, 3, none⟩ = some (.string b)) ∧ (convert 56 9 (.slice (some ⟨w3.heap.size, 0, none⟩) (18 - b.size) (18 - b.size))).run Tryz.prog w' = .ok (.string (zst (18 - b.size))) w') (w3.alloc (.cells (madeCells #[.int .u8 0] (18 - b.size)) 5)) := ⟨F.out _ (S3.out.alloc S3.out.size (.cells (madeCells #[.int .u8 0] (18 - b.size)) 5)), CV.out _ _ M3.out⟩
          try simp only [Act.put, List.getElem_toArray, List.getElem_cons_zero, List.getElem_cons_succ, List.setIfInBounds_toArray, List.set_cons_zero, List.set_cons_succ]
          refine wpAnyH_take (i := 25) (v := ?v24) rfl (by kernel_rfl) (by kernel_rfl) (by kernel_rfl) (fun _ _ _ h => h) (Or.inl ⟨by rfl, ?hy24⟩) (by assumption) ?rest24
          case hy24 => (intro w' hSw; dsimp only [List.getElem_toArray, List.getElem_cons_zero, List.getElem_cons_succ] at hSw ⊢; go_simp; try (with_reducible rfl))
          try simp only [Act.put, List.getElem_toArray, List.getElem_cons_zero, List.getElem_cons_succ, List.setIfInBounds_toArray, List.set_cons_zero, List.set_cons_succ]
          refine wpAnyH_ready (rs := [14]) (by kernel_rfl) (by simp) ?_
          refine AllReadyH.cons rfl (fun K hK => ?_) AllReadyH.nil
          dsimp only [List.getElem_toArray, List.getElem_cons_zero, List.getElem_cons_succ]
          go_simp
          refine (C4.out _).mono ?_
          rintro e' w4 ⟨rfl, bb⟩
          have M4 := hide (M3.out.trans (bb.mono M3.out.size))
          have S4 := hide ((S3.out.alloc S3.out.size (.cells (madeCells #[.int .u8 0] (18 - b.size)) 5)).trans (bb.mono (S3.out.alloc S3.out.size (.cells (madeCells #[.int .u8 0] (18 - b.size)) 5)).size))
          clear bb hHeld
          refine hK.out _ _ ⟨F.out _ S4.out, CV.out _ _ M4.out⟩ (fun hHeld => ?_)
          clear hK K
          try simp only [Act.put, List.getElem_toArray, List.getElem_cons_zero, List.getElem_cons_succ, List.setIfInBounds_toArray, List.set_cons_zero, List.set_cons_succ]
          refine wpAnyH_take (i := 15) (v := ?v25) rfl (by kernel_rfl) (by kernel_rfl) (by kernel_rfl) (fun _ _ _ h => h) (Or.inl ⟨by rfl, ?hy25⟩) (by assumption) ?rest25
          case hy25 => (intro w' hSw; dsimp only [List.getElem_toArray, List.getElem_cons_zero, List.getElem_cons_succ] at hSw ⊢; go_simp; try (with_reducible rfl))
          try simp only [Act.put, List.getElem_toArray, List.getElem_cons_zero, List.getElem_cons_succ, List.setIfInBounds_toArray, List.set_cons_zero, List.set_cons_succ]
          refine wpAnyH_take (i := 18) (v := ?v26) rfl (by kernel_rfl) (by kernel_rfl) (by kernel_rfl) (fun _ _ _ h => h) (Or.inl ⟨by rfl, ?hy26⟩) (by assumption) ?rest26
          case hy26 => (intro w' hSw; dsimp only [List.getElem_toArray, List.getElem_cons_zero, List.getElem_cons_succ] at hSw ⊢; go_simp; try (with_reducible rfl))
          try simp only [Act.put, List.getElem_toArray, List.getElem_cons_zero, List.getElem_cons_succ, List.setIfInBounds_toArray, List.set_cons_zero, List.set_cons_succ]
          refine wpAnyH_take (i := 26) (v := ?v27) rfl (by kernel_rfl) (by kernel_rfl) (by kernel_rfl) (fun _ _ _ h => h) (Or.inl ⟨by rfl, ?hy27⟩) (by assumption) ?rest27
          case hy27 => (intro w' hSw; dsimp only [List.getElem_toArray, List.getElem_cons_zero, List.getElem_cons_succ] at hSw ⊢; go_simp; try (with_reducible rfl))
          try simp only [Act.put, List.getElem_toArray, List.getElem_cons_zero, List.getElem_cons_succ, List.setIfInBounds_toArray, List.set_cons_zero, List.set_cons_succ]
          refine wpAnyH_take (i := 27) (v := ?v28) rfl (by kernel_rfl) (by kernel_rfl) (by kernel_rfl) (fun _ _ _ h => h) (Or.inl ⟨by rfl, ?hy28⟩) (by assumption) ?rest28
          case hy28 => (intro w' hSw; dsimp only [List.getElem_toArray, List.getElem_cons_zero, List.getElem_cons_succ] at hSw ⊢; go_simp; try (with_reducible rfl))
          try simp only [Act.put, List.getElem_toArray, List.getElem_cons_zero, List.getElem_cons_succ, List.setIfInBounds_toArray, List.set_cons_zero, List.set_cons_succ]
          refine wpAnyH_done (by kernel_rfl) ?_ _
          refine NoPanic.normal ?_
          rw [HP.out]
          go_wp2_with fail
          refine (l5On_calls 0 _ _ (by decide) N24).mono ?_
          rintro e' w' ⟨rfl, rfl⟩
          rw [OB.out]
          go_wp2_with fail
          refine (l6Low_calls _ _ LT).mono ?_
          rintro e' w5 ⟨rfl, b5⟩
          have S5 := hide (S4.out.trans (b5.mono S4.out.size))
          clear b5
          go_wp2
          go_ret
          exact ⟨by rw [ofN_append]; rfl, B0.out.trans (S5.out.mono B0.out.size)⟩
      · dsimp only [List.getElem_toArray, List.getElem_cons_zero, List.getElem_cons_succ]
        go_simp
        refine hK.out _ _ (F.out _ (S2.out.alloc S2.out.size (.cells (madeCells #[.int .u8 0] (18 - b.size)) 5))) (fun hHeld => ?_)
        clear hK K hHeld
        refine wpAnyH_imp (S' := fun w' => (w'.cell? ⟨w.heap.size, 0, none⟩ = some (.int .i64 k) ∧ w'.cell? ⟨w.heap.size, 1, none⟩ = some (.int .i64 a) ∧ w'.cell? ⟨w.heap.size, 2, none⟩ = some (.int .i64 e) ∧ w'.cell? ⟨w.heap.size, 3, none⟩ = some (.string b)) ∧ (convert 56 9 (.slice (some ⟨w2.heap.size, 0, none⟩) (18 - b.size) (18 - b.size))).run Tryz.prog w' = .ok (.string (zst (18 - b.size))) w') (fun _ h => h.1) _ _ _ _ ?_
        have M2 := hide (Below.refl (w2.alloc (.cells (madeCells #[.int .u8 0] (18 - b.size)) 5)).heap.size (w2.alloc (.cells (madeCells #[.int .u8 0] (18 - b.size)) 5)))
        have hHeld : (fun w' : World => (w'.cell? ⟨w.heap.size, 0, none⟩ = some (.int .i64 k) ∧ w'.cell? ⟨w.heap.size, 1, none⟩ = some (.int .i64 a) ∧ w'.cell? ⟨w.heap.size, 2, none⟩ = some (.int .i64 e) ∧ w'.cell? ⟨w.heap.size, 3, none⟩ = some (.string b)) ∧ (convert 56 9 (.slice (some ⟨w2.heap.size, 0, none⟩) (18 - b.size) (18 - b.size))).run Tryz.prog w' = .ok (.string (zst (18 - b.size))) w') (w2.alloc (.cells (madeCells #[.int .u8 0] (18 - b.size)) 5)) := ⟨F.out _ (S2.out.alloc S2.out.size (.cells (madeCells #[.int .u8 0] (18 - b.size)) 5)), CV.out _ _ M2.out⟩
        try simp only [Act.put, List.getElem_toArray, List.getElem_cons_zero, List.getElem_cons_succ, List.setIfInBounds_toArray, List.set_cons_zero, List.set_cons_succ]
        refine wpAnyH_take (i := 25) (v := ?v29) rfl (by kernel_rfl) (by kernel_rfl) (by kernel_rfl) (fun _ _ _ h => h) (Or.inl ⟨by rfl, ?hy29⟩) (by assumption) ?rest29
        case hy29 => (intro w' hSw; dsimp only [List.getElem_toArray, List.getElem_cons_zero, List.getElem_cons_succ] at hSw ⊢; go_simp; try (with_reducible rfl))
        try simp only [Act.put, List.getElem_toArray, List.getElem_cons_zero, List.getElem_cons_succ, List.setIfInBounds_toArray, List.set_cons_zero, List.set_cons_succ]
        refine wpAnyH_ready (rs := [9]) (by kernel_rfl) (by simp) ?_
        refine AllReadyH.cons rfl (fun K hK => ?_) AllReadyH.nil
        dsimp only [List.getElem_toArray, List.getElem_cons_zero, List.getElem_cons_succ]
        go_simp
        refine (C3.out _).mono ?_
        rintro e' w3 ⟨rfl, bb⟩
        have M3 := hide (M2.out.trans (bb.mono M2.out.size))
        have S3 := hide ((S2.out.alloc S2.out.size (.cells (madeCells #[.int .u8 0] (18 - b.size)) 5)).trans (bb.mono (S2.out.alloc S2.out.size (.cells (madeCells #[.int .u8 0] (18 - b.size)) 5)).size))
        clear bb hHeld
        refine hK.out _ _ ⟨F.out _ S3.out, CV.out _ _ M3.out⟩ (fun hHeld => ?_)
        clear hK K
        try simp only [Act.put, List.getElem_toArray, List.getElem_cons_zero, List.getElem_cons_succ, List.setIfInBounds_toArray, List.set_cons_zero, List.set_cons_succ]
        refine wpAnyH_take (i := 10) (v := ?v30) rfl (by kernel_rfl) (by kernel_rfl) (by kernel_rfl) (fun _ _ _ h => h) (Or.inl ⟨by rfl, ?hy30⟩) (by assumption) ?rest30
        case hy30 => (intro w' hSw; dsimp only [List.getElem_toArray, List.getElem_cons_zero, List.getElem_cons_succ] at hSw ⊢; go_simp; try (with_reducible rfl))
        try simp only [Act.put, List.getElem_toArray, List.getElem_cons_zero, List.getElem_cons_succ, List.setIfInBounds_toArray, List.set_cons_zero, List.set_cons_succ]
        refine wpAnyH_ready (rs := [14]) (by kernel_rfl) (by simp) ?_
        refine AllReadyH.cons rfl (fun K hK => ?_) AllReadyH.nil
        dsimp only [List.getElem_toArray, List.getElem_cons_zero, List.getElem_cons_succ]
        go_simp
        refine (C4.out _).mono ?_
        rintro e' w4 ⟨rfl, bb⟩
        have M4 := hide (M3.out.trans (bb.mono M3.out.size))
        have S4 := hide (S3.out.trans (bb.mono S3.out.size))
        clear bb hHeld
        refine hK.out _ _ ⟨F.out _ S4.out, CV.out _ _ M4.out⟩ (fun hHeld => ?_)
        clear hK K
        try simp only [Act.put, List.getElem_toArray, List.getElem_cons_zero, List.getElem_cons_succ, List.setIfInBounds_toArray, List.set_cons_zero, List.set_cons_succ]
        refine wpAnyH_take (i := 15) (v := ?v31) rfl (by kernel_rfl) (by kernel_rfl) (by kernel_rfl) (fun _ _ _ h => h) (Or.inl ⟨by rfl, ?hy31⟩) (by assumption) ?rest31
        case hy31 => (intro w' hSw; dsimp only [List.getElem_toArray, List.getElem_cons_zero, List.getElem_cons_succ] at hSw ⊢; go_simp; try (with_reducible rfl))
        try simp only [Act.put, List.getElem_toArray, List.getElem_cons_zero, List.getElem_cons_succ, List.setIfInBounds_toArray, List.set_cons_zero, List.set_cons_succ]
        refine wpAnyH_take (i := 18) (v := ?v32) rfl (by kernel_rfl) (by kernel_rfl) (by kernel_rfl) (fun _ _ _ h => h) (Or.inl ⟨by rfl, ?hy32⟩) (by assumption) ?rest32
        case hy32 => (intro w' hSw; dsimp only [List.getElem_toArray, List.getElem_cons_zero, List.getElem_cons_succ] at hSw ⊢; go_simp; try (with_reducible rfl))
        try simp only [Act.put, List.getElem_toArray, List.getElem_cons_zero, List.getElem_cons_succ, List.setIfInBounds_toArray, List.set_cons_zero, List.set_cons_succ]
        refine wpAnyH_take (i := 26) (v := ?v33) rfl (by kernel_rfl) (by kernel_rfl) (by kernel_rfl) (fun _ _ _ h => h) (Or.inl ⟨by rfl, ?hy33⟩) (by assumption) ?rest33
        case hy33 => (intro w' hSw; dsimp only [List.getElem_toArray, List.getElem_cons_zero, List.getElem_cons_succ] at hSw ⊢; go_simp; try (with_reducible rfl))
        try simp only [Act.put, List.getElem_toArray, List.getElem_cons_zero, List.getElem_cons_succ, List.setIfInBounds_toArray, List.set_cons_zero, List.set_cons_succ]
        refine wpAnyH_take (i := 27) (v := ?v34) rfl (by kernel_rfl) (by kernel_rfl) (by kernel_rfl) (fun _ _ _ h => h) (Or.inl ⟨by rfl, ?hy34⟩) (by assumption) ?rest34
        case hy34 => (intro w' hSw; dsimp only [List.getElem_toArray, List.getElem_cons_zero, List.getElem_cons_succ] at hSw ⊢; go_simp; try (with_reducible rfl))
        try simp only [Act.put, List.getElem_toArray, List.getElem_cons_zero, List.getElem_cons_succ, List.setIfInBounds_toArray, List.set_cons_zero, List.set_cons_succ]
        refine wpAnyH_done (by kernel_rfl) ?_ _
        refine NoPanic.normal ?_
        rw [HP.out]
        go_wp2_with fail
        refine (l5On_calls 0 _ _ (by decide) N24).mono ?_
        rintro e' w' ⟨rfl, rfl⟩
        rw [OB.out]
        go_wp2_with fail
        refine (l6Low_calls _ _ LT).mono ?_
        rintro e' w5 ⟨rfl, b5⟩
        have S5 := hide (S4.out.trans (b5.mono S4.out.size))
        clear b5
        go_wp2
        go_ret
        exact ⟨by rw [ofN_append]; rfl, B0.out.trans (S5.out.mono B0.out.size)⟩
    · dsimp only [List.getElem_toArray, List.getElem_cons_zero, List.getElem_cons_succ]
      go_simp
      refine hK.out _ _ (F.out _ (S1.out.alloc S1.out.size (.cells (madeCells #[.int .u8 0] (18 - b.size)) 5))) (fun hHeld => ?_)
      clear hK K hHeld
      refine wpAnyH_imp (S' := fun w' => (w'.cell? ⟨w.heap.size, 0, none⟩ = some (.int .i64 k) ∧ w'.cell? ⟨w.heap.size, 1, none⟩ = some (.int .i64 a) ∧ w'.cell? ⟨w.heap.size, 2, none⟩ = some (.int .i64 e) ∧ w'.cell? ⟨w.heap.size, 3, none⟩ = some (.string b)) ∧ (convert 56 9 (.slice (some ⟨w1.heap.size, 0, none⟩) (18 - b.size) (18 - b.size))).run Tryz.prog w' = .ok (.string (zst (18 - b.size))) w') (fun _ h => h.1) _ _ _ _ ?_
      have M1 := hide (Below.refl (w1.alloc (.cells (madeCells #[.int .u8 0] (18 - b.size)) 5)).heap.size (w1.alloc (.cells (madeCells #[.int .u8 0] (18 - b.size)) 5)))
      have hHeld : (fun w' : World => (w'.cell? ⟨w.heap.size, 0, none⟩ = some (.int .i64 k) ∧ w'.cell? ⟨w.heap.size, 1, none⟩ = some (.int .i64 a) ∧ w'.cell? ⟨w.heap.size, 2, none⟩ = some (.int .i64 e) ∧ w'.cell? ⟨w.heap.size, 3, none⟩ = some (.string b)) ∧ (convert 56 9 (.slice (some ⟨w1.heap.size, 0, none⟩) (18 - b.size) (18 - b.size))).run Tryz.prog w' = .ok (.string (zst (18 - b.size))) w') (w1.alloc (.cells (madeCells #[.int .u8 0] (18 - b.size)) 5)) := ⟨F.out _ (S1.out.alloc S1.out.size (.cells (madeCells #[.int .u8 0] (18 - b.size)) 5)), CV.out _ _ M1.out⟩
      try simp only [Act.put, List.getElem_toArray, List.getElem_cons_zero, List.getElem_cons_succ, List.setIfInBounds_toArray, List.set_cons_zero, List.set_cons_succ]
      refine wpAnyH_take (i := 25) (v := ?v35) rfl (by kernel_rfl) (by kernel_rfl) (by kernel_rfl) (fun _ _ _ h => h) (Or.inl ⟨by rfl, ?hy35⟩) (by assumption) ?rest35
      case hy35 => (intro w' hSw; dsimp only [List.getElem_toArray, List.getElem_cons_zero, List.getElem_cons_succ] at hSw ⊢; go_simp; try (with_reducible rfl))
      try simp only [Act.put, List.getElem_toArray, List.getElem_cons_zero, List.getElem_cons_succ, List.setIfInBounds_toArray, List.set_cons_zero, List.set_cons_succ]
      refine wpAnyH_ready (rs := [5]) (by kernel_rfl) (by simp) ?_
      refine AllReadyH.cons rfl (fun K hK => ?_) AllReadyH.nil
      dsimp only [List.getElem_toArray, List.getElem_cons_zero, List.getElem_cons_succ]
      go_simp
      refine (C2.out _).mono ?_
      rintro e' w2 ⟨rfl, bb⟩
      have M2 := hide (M1.out.trans (bb.mono M1.out.size))
      have S2 := hide ((S1.out.alloc S1.out.size (.cells (madeCells #[.int .u8 0] (18 - b.size)) 5)).trans (bb.mono (S1.out.alloc S1.out.size (.cells (madeCells #[.int .u8 0] (18 - b.size)) 5)).size))
      clear bb hHeld
      refine hK.out _ _ ⟨F.out _ S2.out, CV.out _ _ M2.out⟩ (fun hHeld => ?_)
      clear hK K
      try simp only [Act.put, List.getElem_toArray, List.getElem_cons_zero, List.getElem_cons_succ, List.setIfInBounds_toArray, List.set_cons_zero, List.set_cons_succ]
      refine wpAnyH_take (i := 6) (v := ?v36) rfl (by kernel_rfl) (by kernel_rfl) (by kernel_rfl) (fun _ _ _ h => h) (Or.inl ⟨by rfl, ?hy36⟩) (by assumption) ?rest36
      case hy36 => (intro w' hSw; dsimp only [List.getElem_toArray, List.getElem_cons_zero, List.getElem_cons_succ] at hSw ⊢; go_simp; try (with_reducible rfl))
      try simp only [Act.put, List.getElem_toArray, List.getElem_cons_zero, List.getElem_cons_succ, List.setIfInBounds_toArray, List.set_cons_zero, List.set_cons_succ]
      refine wpAnyH_ready (rs := [9]) (by kernel_rfl) (by simp) ?_
      refine AllReadyH.cons rfl (fun K hK => ?_) AllReadyH.nil
      dsimp only [List.getElem_toArray, List.getElem_cons_zero, List.getElem_cons_succ]
      go_simp
      refine (C3.out _).mono ?_
      rintro e' w3 ⟨rfl, bb⟩
      have M3 := hide (M2.out.trans (bb.mono M2.out.size))
      have S3 := hide (S2.out.trans (bb.mono S2.out.size))
      clear bb hHeld
      refine hK.out _ _ ⟨F.out _ S3.out, CV.out _ _ M3.out⟩ (fun hHeld => ?_)
      clear hK K
      try simp only [Act.put, List.getElem_toArray, List.getElem_cons_zero, List.getElem_cons_succ, List.setIfInBounds_toArray, List.set_cons_zero, List.set_cons_succ]
      refine wpAnyH_take (i := 10) (v := ?v37) rfl (by kernel_rfl) (by kernel_rfl) (by kernel_rfl) (fun _ _ _ h => h) (Or.inl ⟨by rfl, ?hy37⟩) (by assumption) ?rest37
      case hy37 => (intro w' hSw; dsimp only [List.getElem_toArray, List.getElem_cons_zero, List.getElem_cons_succ] at hSw ⊢; go_simp; try (with_reducible rfl))
      try simp only [Act.put, List.getElem_toArray, List.getElem_cons_zero, List.getElem_cons_succ, List.setIfInBounds_toArray, List.set_cons_zero, List.set_cons_succ]
      refine wpAnyH_ready (rs := [14]) (by kernel_rfl) (by simp) ?_
      refine AllReadyH.cons rfl (fun K hK => ?_) AllReadyH.nil
      dsimp only [List.getElem_toArray, List.getElem_cons_zero, List.getElem_cons_succ]
      go_simp
      refine (C4.out _).mono ?_
      rintro e' w4 ⟨rfl, bb⟩
      have M4 := hide (M3.out.trans (bb.mono M3.out.size))
      have S4 := hide (S3.out.trans (bb.mono S3.out.size))
      clear bb hHeld
      refine hK.out _ _ ⟨F.out _ S4.out, CV.out _ _ M4.out⟩ (fun hHeld => ?_)
      clear hK K
      try simp only [Act.put, List.getElem_toArray, List.getElem_cons_zero, List.getElem_cons_succ, List.setIfInBounds_toArray, List.set_cons_zero, List.set_cons_succ]
      refine wpAnyH_take (i := 15) (v := ?v38) rfl (by kernel_rfl) (by kernel_rfl) (by kernel_rfl) (fun _ _ _ h => h) (Or.inl ⟨by rfl, ?hy38⟩) (by assumption) ?rest38
      case hy38 => (intro w' hSw; dsimp only [List.getElem_toArray, List.getElem_cons_zero, List.getElem_cons_succ] at hSw ⊢; go_simp; try (with_reducible rfl))
      try simp only [Act.put, List.getElem_toArray, List.getElem_cons_zero, List.getElem_cons_succ, List.setIfInBounds_toArray, List.set_cons_zero, List.set_cons_succ]
      refine wpAnyH_take (i := 18) (v := ?v39) rfl (by kernel_rfl) (by kernel_rfl) (by kernel_rfl) (fun _ _ _ h => h) (Or.inl ⟨by rfl, ?hy39⟩) (by assumption) ?rest39
      case hy39 => (intro w' hSw; dsimp only [List.getElem_toArray, List.getElem_cons_zero, List.getElem_cons_succ] at hSw ⊢; go_simp; try (with_reducible rfl))
      try simp only [Act.put, List.getElem_toArray, List.getElem_cons_zero, List.getElem_cons_succ, List.setIfInBounds_toArray, List.set_cons_zero, List.set_cons_succ]
      refine wpAnyH_take (i := 26) (v := ?v40) rfl (by kernel_rfl) (by kernel_rfl) (by kernel_rfl) (fun _ _ _ h => h) (Or.inl ⟨by rfl, ?hy40⟩) (by assumption) ?rest40
      case hy40 => (intro w' hSw; dsimp only [List.getElem_toArray, List.getElem_cons_zero, List.getElem_cons_succ] at hSw ⊢; go_simp; try (with_reducible rfl))
      try simp only [Act.put, List.getElem_toArray, List.getElem_cons_zero, List.getElem_cons_succ, List.setIfInBounds_toArray, List.set_cons_zero, List.set_cons_succ]
      refine wpAnyH_take (i := 27) (v := ?v41) rfl (by kernel_rfl) (by kernel_rfl) (by kernel_rfl) (fun _ _ _ h => h) (Or.inl ⟨by rfl, ?hy41⟩) (by assumption) ?rest41
      case hy41 => (intro w' hSw; dsimp only [List.getElem_toArray, List.getElem_cons_zero, List.getElem_cons_succ] at hSw ⊢; go_simp; try (with_reducible rfl))
      try simp only [Act.put, List.getElem_toArray, List.getElem_cons_zero, List.getElem_cons_succ, List.setIfInBounds_toArray, List.set_cons_zero, List.set_cons_succ]
      refine wpAnyH_done (by kernel_rfl) ?_ _
      refine NoPanic.normal ?_
      rw [HP.out]
      go_wp2_with fail
      refine (l5On_calls 0 _ _ (by decide) N24).mono ?_
      rintro e' w' ⟨rfl, rfl⟩
      rw [OB.out]
      go_wp2_with fail
      refine (l6Low_calls _ _ LT).mono ?_
      rintro e' w5 ⟨rfl, b5⟩
      have S5 := hide (S4.out.trans (b5.mono S4.out.size))
      clear b5
      go_wp2
      go_ret
      exact ⟨by rw [ofN_append]; rfl, B0.out.trans (S5.out.mono B0.out.size)⟩
  · dsimp only [List.getElem_toArray, List.getElem_cons_zero, List.getElem_cons_succ]
    go_simp
    refine hK.out _ _ (F.out _ (S0.out.alloc S0.out.size (.cells (madeCells #[.int .u8 0] (18 - b.size)) 5))) (fun hHeld => ?_)
    clear hK K hHeld
    refine wpAnyH_imp (S' := fun w' => (w'.cell? ⟨w.heap.size, 0, none⟩ = some (.int .i64 k) ∧ w'.cell? ⟨w.heap.size, 1, none⟩ = some (.int .i64 a) ∧ w'.cell? ⟨w.heap.size, 2, none⟩ = some (.int .i64 e) ∧ w'.cell? ⟨w.heap.size, 3, none⟩ = some (.string b)) ∧ (convert 56 9 (.slice (some ⟨W0.heap.size, 0, none⟩) (18 - b.size) (18 - b.size))).run Tryz.prog w' = .ok (.string (zst (18 - b.size))) w') (fun _ h => h.1) _ _ _ _ ?_
    have M0 := hide (Below.refl (W0.alloc (.cells (madeCells #[.int .u8 0] (18 - b.size)) 5)).heap.size (W0.alloc (.cells (madeCells #[.int .u8 0] (18 - b.size)) 5)))
    have hHeld : (fun w' : World => (w'.cell? ⟨w.heap.size, 0, none⟩ = some (.int .i64 k) ∧ w'.cell? ⟨w.heap.size, 1, none⟩ = some (.int .i64 a) ∧ w'.cell? ⟨w.heap.size, 2, none⟩ = some (.int .i64 e) ∧ w'.cell? ⟨w.heap.size, 3, none⟩ = some (.string b)) ∧ (convert 56 9 (.slice (some ⟨W0.heap.size, 0, none⟩) (18 - b.size) (18 - b.size))).run Tryz.prog w' = .ok (.string (zst (18 - b.size))) w') (W0.alloc (.cells (madeCells #[.int .u8 0] (18 - b.size)) 5)) := ⟨F.out _ (S0.out.alloc S0.out.size (.cells (madeCells #[.int .u8 0] (18 - b.size)) 5)), CV.out _ _ M0.out⟩
    try simp only [Act.put, List.getElem_toArray, List.getElem_cons_zero, List.getElem_cons_succ, List.setIfInBounds_toArray, List.set_cons_zero, List.set_cons_succ]
    refine wpAnyH_take (i := 25) (v := ?v42) rfl (by kernel_rfl) (by kernel_rfl) (by kernel_rfl) (fun _ _ _ h => h) (Or.inl ⟨by rfl, ?hy42⟩) (by assumption) ?rest42
    case hy42 => (intro w' hSw; dsimp only [List.getElem_toArray, List.getElem_cons_zero, List.getElem_cons_succ] at hSw ⊢; go_simp; try (with_reducible rfl))
    try simp only [Act.put, List.getElem_toArray, List.getElem_cons_zero, List.getElem_cons_succ, List.setIfInBounds_toArray, List.set_cons_zero, List.set_cons_succ]
    refine wpAnyH_ready (rs := [2]) (by kernel_rfl) (by simp) ?_
    refine AllReadyH.cons rfl (fun K hK => ?_) AllReadyH.nil
    dsimp only [List.getElem_toArray, List.getElem_cons_zero, List.getElem_cons_succ]
    go_simp
    refine (C1.out _).mono ?_
    rintro e' w1 ⟨rfl, bb⟩
    have M1 := hide (M0.out.trans (bb.mono M0.out.size))
    have S1 := hide ((S0.out.alloc S0.out.size (.cells (madeCells #[.int .u8 0] (18 - b.size)) 5)).trans (bb.mono (S0.out.alloc S0.out.size (.cells (madeCells #[.int .u8 0] (18 - b.size)) 5)).size))
    clear bb hHeld
    refine hK.out _ _ ⟨F.out _ S1.out, CV.out _ _ M1.out⟩ (fun hHeld => ?_)
    clear hK K
    try simp only [Act.put, List.getElem_toArray, List.getElem_cons_zero, List.getElem_cons_succ, List.setIfInBounds_toArray, List.set_cons_zero, List.set_cons_succ]
    refine wpAnyH_ready (rs := [5]) (by kernel_rfl) (by simp) ?_
    refine AllReadyH.cons rfl (fun K hK => ?_) AllReadyH.nil
    dsimp only [List.getElem_toArray, List.getElem_cons_zero, List.getElem_cons_succ]
    go_simp
    refine (C2.out _).mono ?_
    rintro e' w2 ⟨rfl, bb⟩
    have M2 := hide (M1.out.trans (bb.mono M1.out.size))
    have S2 := hide (S1.out.trans (bb.mono S1.out.size))
    clear bb hHeld
    refine hK.out _ _ ⟨F.out _ S2.out, CV.out _ _ M2.out⟩ (fun hHeld => ?_)
    clear hK K
    try simp only [Act.put, List.getElem_toArray, List.getElem_cons_zero, List.getElem_cons_succ, List.setIfInBounds_toArray, List.set_cons_zero, List.set_cons_succ]
    refine wpAnyH_take (i := 6) (v := ?v43) rfl (by kernel_rfl) (by kernel_rfl) (by kernel_rfl) (fun _ _ _ h => h) (Or.inl ⟨by rfl, ?hy43⟩) (by assumption) ?rest43
    case hy43 => (intro w' hSw; dsimp only [List.getElem_toArray, List.getElem_cons_zero, List.getElem_cons_succ] at hSw ⊢; go_simp; try (with_reducible rfl))
    try simp only [Act.put, List.getElem_toArray, List.getElem_cons_zero, List.getElem_cons_succ, List.setIfInBounds_toArray, List.set_cons_zero, List.set_cons_succ]
    refine wpAnyH_ready (rs := [9]) (by kernel_rfl) (by simp) ?_
    refine AllReadyH.cons rfl (fun K hK => ?_) AllReadyH.nil
    dsimp only [List.getElem_toArray, List.getElem_cons_zero, List.getElem_cons_succ]
    go_simp
    refine (C3.out _).mono ?_
    rintro e' w3 ⟨rfl, bb⟩
    have M3 := hide (M2.out.trans (bb.mono M2.out.size))
    have S3 := hide (S2.out.trans (bb.mono S2.out.size))
    clear bb hHeld
    refine hK.out _ _ ⟨F.out _ S3.out, CV.out _ _ M3.out⟩ (fun hHeld => ?_)
    clear hK K
    try simp only [Act.put, List.getElem_toArray, List.getElem_cons_zero, List.getElem_cons_succ, List.setIfInBounds_toArray, List.set_cons_zero, List.set_cons_succ]
    refine wpAnyH_take (i := 10) (v := ?v44) rfl (by kernel_rfl) (by kernel_rfl) (by kernel_rfl) (fun _ _ _ h => h) (Or.inl ⟨by rfl, ?hy44⟩) (by assumption) ?rest44
    case hy44 => (intro w' hSw; dsimp only [List.getElem_toArray, List.getElem_cons_zero, List.getElem_cons_succ] at hSw ⊢; go_simp; try (with_reducible rfl))
    try simp only [Act.put, List.getElem_toArray, List.getElem_cons_zero, List.getElem_cons_succ, List.setIfInBounds_toArray, List.set_cons_zero, List.set_cons_succ]
    refine wpAnyH_ready (rs := [14]) (by kernel_rfl) (by simp) ?_
    refine AllReadyH.cons rfl (fun K hK => ?_) AllReadyH.nil
    dsimp only [List.getElem_toArray, List.getElem_cons_zero, List.getElem_cons_succ]
    go_simp
    refine (C4.out _).mono ?_
    rintro e' w4 ⟨rfl, bb⟩
    have M4 := hide (M3.out.trans (bb.mono M3.out.size))
    have S4 := hide (S3.out.trans (bb.mono S3.out.size))
    clear bb hHeld
    refine hK.out _ _ ⟨F.out _ S4.out, CV.out _ _ M4.out⟩ (fun hHeld => ?_)
    clear hK K
    try simp only [Act.put, List.getElem_toArray, List.getElem_cons_zero, List.getElem_cons_succ, List.setIfInBounds_toArray, List.set_cons_zero, List.set_cons_succ]
    refine wpAnyH_take (i := 15) (v := ?v45) rfl (by kernel_rfl) (by kernel_rfl) (by kernel_rfl) (fun _ _ _ h => h) (Or.inl ⟨by rfl, ?hy45⟩) (by assumption) ?rest45
    case hy45 => (intro w' hSw; dsimp only [List.getElem_toArray, List.getElem_cons_zero, List.getElem_cons_succ] at hSw ⊢; go_simp; try (with_reducible rfl))
    try simp only [Act.put, List.getElem_toArray, List.getElem_cons_zero, List.getElem_cons_succ, List.setIfInBounds_toArray, List.set_cons_zero, List.set_cons_succ]
    refine wpAnyH_take (i := 18) (v := ?v46) rfl (by kernel_rfl) (by kernel_rfl) (by kernel_rfl) (fun _ _ _ h => h) (Or.inl ⟨by rfl, ?hy46⟩) (by assumption) ?rest46
    case hy46 => (intro w' hSw; dsimp only [List.getElem_toArray, List.getElem_cons_zero, List.getElem_cons_succ] at hSw ⊢; go_simp; try (with_reducible rfl))
    try simp only [Act.put, List.getElem_toArray, List.getElem_cons_zero, List.getElem_cons_succ, List.setIfInBounds_toArray, List.set_cons_zero, List.set_cons_succ]
    refine wpAnyH_take (i := 26) (v := ?v47) rfl (by kernel_rfl) (by kernel_rfl) (by kernel_rfl) (fun _ _ _ h => h) (Or.inl ⟨by rfl, ?hy47⟩) (by assumption) ?rest47
    case hy47 => (intro w' hSw; dsimp only [List.getElem_toArray, List.getElem_cons_zero, List.getElem_cons_succ] at hSw ⊢; go_simp; try (with_reducible rfl))
    try simp only [Act.put, List.getElem_toArray, List.getElem_cons_zero, List.getElem_cons_succ, List.setIfInBounds_toArray, List.set_cons_zero, List.set_cons_succ]
    refine wpAnyH_take (i := 27) (v := ?v48) rfl (by kernel_rfl) (by kernel_rfl) (by kernel_rfl) (fun _ _ _ h => h) (Or.inl ⟨by rfl, ?hy48⟩) (by assumption) ?rest48
    case hy48 => (intro w' hSw; dsimp only [List.getElem_toArray, List.getElem_cons_zero, List.getElem_cons_succ] at hSw ⊢; go_simp; try (with_reducible rfl))
    try simp only [Act.put, List.getElem_toArray, List.getElem_cons_zero, List.getElem_cons_succ, List.setIfInBounds_toArray, List.set_cons_zero, List.set_cons_succ]
    refine wpAnyH_done (by kernel_rfl) ?_ _
    refine NoPanic.normal ?_
    rw [HP.out]
    go_wp2_with fail
    refine (l5On_calls 0 _ _ (by decide) N24).mono ?_
    rintro e' w' ⟨rfl, rfl⟩
    rw [OB.out]
    go_wp2_with fail
    refine (l6Low_calls _ _ LT).mono ?_
    rintro e' w5 ⟨rfl, b5⟩
    have S5 := hide (S4.out.trans (b5.mono S4.out.size))
    clear b5
    go_wp2
    go_ret
    exact ⟨by rw [ofN_append]; rfl, B0.out.trans (S5.out.mono B0.out.size)⟩
end Go.Proofs.YtbgadbokejaomaaGreatDoor

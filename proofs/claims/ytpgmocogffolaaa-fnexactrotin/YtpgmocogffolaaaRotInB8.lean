/-
  A sector read: a text's copy, the program's ReadSector and its model's, call by call. Each contract says what it asks. Where something is held: the program's HeldIn and its model's, call by call. Each contract says what it asks. 'append' to a new, empty row, as one step of a statement that leaves its order open: rows of texts, rows of Booleans. No condition; no call is walked here.
-/
import Derived.Test.YtpgmocogffolaaaRotInB7
import Derived.Lib.Strings
import Derived.Lib.BufferWrite
import Derived.Lib.UnsafeStr
import Derived.Deep.AppendLies
namespace Go.Proofs.Ytpgmocogffolaaa
open Go.RowKit
set_option linter.unusedVariables false

theorem infoU8c : (Try.prog.info? 5).map (fun i => (i.zero, i.size, i.bytes)) = some (some (.int .u8 0), 1, 1) := by kernel_rfl

set_option maxHeartbeats 4000000 in
set_option maxRecDepth 100000 in
theorem clone0_calls (s : ByteArray) (w : World) (hlim : s.size ≤ 1048576) :
    Calls Try.prog 156 #[.string s] w fun e w' => e = .returned (.string s) ∧ Below w.heap.size w w' := by
  by_cases h0 : s.size = 0
  · have hs : s = ⟨#[]⟩ := by
      apply ByteArray.ext
      exact Array.eq_empty_of_size_eq_zero h0
    subst hs
    go_enter Try.func156, Try.ntmps156
    go_wp2
    go_ret
    exact ⟨rfl, Below.refl _ _⟩
  · obtain ⟨i0, hi, hz0, hz1, hz2⟩ := info_parts infoU8c
    have hinfo : (Try.prog.info? 5).map (·.size) = some 1 := by rw [hi]; simp [hz1]
    have hco : Try.prog.cellsOf 5 = 1 := by simp [Program.cellsOf, hi, hz1]
    obtain ⟨M, hM⟩ : ∃ M, M = madeCells (Value.int .u8 0).cells (((s.size : Nat) : Int).toNat * i0.size) := ⟨_, rfl⟩
    have hMs : M.size = s.size := by rw [hM, size_madeCells, hz1]; simp
    have hmk : ∀ W : World, (Instr.makeSlice 121 (.int .i64 (s.size : Int)) (.int .i64 (s.size : Int))).run Try.prog W = .ok (.slice (some ⟨W.heap.size, 0, none⟩) s.size s.size) (W.alloc (.cells M 5)) := fun W => by
      have h := run_make (P := Try.prog) W 121 5 i0 (.int .u8 0) Try.underlying121 hi hz0 .i64 .i64 (s.size : Int) (s.size : Int) (by omega) (by omega) (by rw [hz2]; omega) (by omega)
      rw [← hM] at h
      simpa using h
    clear hM
    have hcp := Lib.run_copy_row_string (P := Try.prog) (w.alloc (.cells M 5)) 121 9 3 5 w.heap.size 0 s.size s.size s M 5 Try.underlying121 hinfo (heap_alloc_new w _) (Nat.le_refl _) (by omega)
    obtain ⟨Y, hY⟩ : ∃ Y, Y = (M.toList.take 0 ++ Lib.byteCells s.data.toList ++ M.toList.drop (0 + s.size)).toArray := ⟨_, rfl⟩
    rw [← hY] at hcp
    have hYl : Y.toList = Lib.byteCells s.data.toList := by
      rw [hY, List.toList_toArray, List.take_zero, List.nil_append, List.drop_of_length_le (by rw [Array.length_toList]; omega), List.append_nil]
    have hYs : Y.size = s.size := by rw [← Array.length_toList, hYl, Lib.byteCells_length, ← Lib.size_eq]
    have hgY : ((w.alloc (.cells M 5)).setRow w.heap.size Y).heap[w.heap.size]? = some (.cells Y 5 (0, 0)) := setRow_heap _ _ M _ 5 (0, 0) (heap_alloc_new w _)
    have hne : s.data.toList ≠ [] := fun e => h0 (by rw [Lib.size_eq, e]; rfl)
    have hUS := Lib.run_unsafeString_row (P := Try.prog) ((w.alloc (.cells M 5)).setRow w.heap.size Y) 158 3 9 5 Try.underlying158 hco w.heap.size Y.size (by unfold World.shape?; rw [hgY]) s.data.toList hne (by rw [← Lib.size_eq]; omega) (by rw [← Lib.size_eq]; omega)
      (fun j x hx => Lib.cells_of_row hgY Y.size j _ (by rw [List.take_of_length_le (by rw [Array.length_toList]; exact Nat.le_refl _), hYl]; simp [Lib.byteCells, hx]))
    rw [← Lib.size_eq] at hUS
    clear hY hi hz0 hz1 hz2
    go_enter Try.func156, Try.ntmps156
    go_wp2
    go_ret
    have hb1 : Below w.heap.size w (w.alloc (.cells M 5)) := (Below.refl _ w).alloc (Nat.le_refl _) _
    have hb2 : Below w.heap.size (w.alloc (.cells M 5)) ((w.alloc (.cells M 5)).setRow w.heap.size Y) := ⟨rfl, rfl, rfl, by simp, fun k hk => setRow_other _ _ _ _ (by omega)⟩
    exact ⟨rfl, Lib.below_freeze (hb1.trans hb2) (p := ⟨w.heap.size, 0, none⟩) (Nat.le_refl _) _⟩

set_option maxRecDepth 100000 in
theorem clone_calls (s : ByteArray) (w : World) (hlim : s.size ≤ 1048576) :
    Calls Try.prog 146 #[.string s] w fun e w' => e = .returned (.string s) ∧ Below w.heap.size w w' := by
  go_enter Try.func146, Try.ntmps146
  go_wp2_with fail
  refine (clone0_calls s _ hlim).mono ?_
  rintro e w1 ⟨rfl, q⟩
  go_wp2
  go_ret
  exact ⟨rfl, q⟩

set_option maxRecDepth 100000 in
theorem hasSector_yes (ap : Option Addr) (n cp : Nat) (h b : Value) (A : Int) (w : World) (h0 : 0 ≤ A) (h1 : A < (n : Int)) (hn : n ≤ 1048576) :
    Calls Try.prog 135 #[.agg #[.slice ap n cp, h, b], .int .i64 A] w fun e w' => e = .returned (.bool true) ∧ Below w.heap.size w w' := by
  have B0 := hide (below_box w (.cells #[.slice ap n cp, h, b] 30))
  go_enter Try.func135, Try.ntmps135
  go_wp2
  go_ret
  exact ⟨by simp, B0.out⟩
set_option maxRecDepth 100000 in
theorem hasSector_no (ap : Option Addr) (n cp : Nat) (h b : Value) (A : Int) (w : World) (h0 : ¬ (0 ≤ A ∧ A < (n : Int))) (hn : n ≤ 1048576) :
    Calls Try.prog 135 #[.agg #[.slice ap n cp, h, b], .int .i64 A] w fun e w' => e = .returned (.bool false) ∧ Below w.heap.size w w' := by
  have B0 := hide (below_box w (.cells #[.slice ap n cp, h, b] 30))
  by_cases h1 : 0 ≤ A
  · have h2 : ¬ A < (n : Int) := fun e => h0 ⟨h1, e⟩
    clear h0
    go_enter Try.func135, Try.ntmps135
    go_wp2
    go_ret
    exact ⟨by simp, B0.out⟩
  · clear h0
    go_enter Try.func135, Try.ntmps135
    go_wp2
    go_ret
    exact ⟨rfl, B0.out⟩

set_option maxRecDepth 100000 in
theorem l7There_yes (ap : Option Addr) (n cp : Nat) (h b : Value) (A : Int) (w : World) (h0 : 0 ≤ A) (h1 : A < (n : Int)) (hn : n ≤ 1048576) :
    Calls Try.prog 131 #[.agg #[.slice ap n cp, h, b], .int .i64 A] w fun e w' => e = .returned (.bool true) ∧ Below w.heap.size w w' := by
  have B0 := hide (below_box w (.cells #[.slice ap n cp, h, b] 30))
  go_enter Try.func131, Try.ntmps131
  go_wp2
  go_ret
  exact ⟨by simp, B0.out⟩
set_option maxRecDepth 100000 in
theorem l7There_no (ap : Option Addr) (n cp : Nat) (h b : Value) (A : Int) (w : World) (h0 : ¬ (0 ≤ A ∧ A < (n : Int))) (hn : n ≤ 1048576) :
    Calls Try.prog 131 #[.agg #[.slice ap n cp, h, b], .int .i64 A] w fun e w' => e = .returned (.bool false) ∧ Below w.heap.size w w' := by
  have B0 := hide (below_box w (.cells #[.slice ap n cp, h, b] 30))
  by_cases h1 : 0 ≤ A
  · have h2 : ¬ A < (n : Int) := fun e => h0 ⟨h1, e⟩
    clear h0
    go_enter Try.func131, Try.ntmps131
    go_wp2
    go_ret
    exact ⟨by simp, B0.out⟩
  · clear h0
    go_enter Try.func131, Try.ntmps131
    go_wp2
    go_ret
    exact ⟨rfl, B0.out⟩

/-- What ReadSector answers. -/
def rsOk (P H : List ByteArray) (B : List Bool) (A : Int) : Prop := gkP P H B ∧ (0 ≤ A ∧ A < (P.length : Int)) ∧ B.getD A.toNat false = false
/-- What a sector tells. -/
def rsT (P H : List ByteArray) (k : Nat) : ByteArray := if (H.getD k ⟨#[]⟩).size = 0 then P.getD k ⟨#[]⟩ else H.getD k ⟨#[]⟩
theorem size_zero {z : ByteArray} (h : z.size = 0) : z = ⟨#[]⟩ := by
  apply ByteArray.ext
  exact Array.eq_empty_of_size_eq_zero h
theorem rs_cases (P H : List ByteArray) (B : List Bool) (A : Int) : ∃ (T : ByteArray) (ok : Bool), (ok = true ∧ rsOk P H B A ∧ T = rsT P H A.toNat) ∨ (ok = false ∧ ¬ rsOk P H B A ∧ T = ⟨#[]⟩) := by
  by_cases h : rsOk P H B A
  · exact ⟨_, true, .inl ⟨rfl, h, rfl⟩⟩
  · exact ⟨_, false, .inr ⟨rfl, h, rfl⟩⟩

set_option maxRecDepth 100000 in
set_option maxHeartbeats 1600000 in
theorem readSector_calls (p h b : Value) (P H : List ByteArray) (B : List Bool) (A : Int) (T : ByteArray) (ok : Bool) (w : World) (hT : (ok = true ∧ rsOk P H B A ∧ T = rsT P H A.toNat) ∨ (ok = false ∧ ¬ rsOk P H B A ∧ T = ⟨#[]⟩)) (hp : RdT w p P) (hh : RdT w h H) (hb : RdZ w b B) :
    Calls Try.prog 116 #[.agg #[p, h, b], .int .i64 A] w fun e w' => e = .returned (.tuple #[.string T, .bool ok]) ∧ Below w.heap.size w w' := by
  obtain ⟨g, hg⟩ := gk_bool' P H B
  have HG := hide hg
  have HT := hide hT
  have RP := hide hp
  have RH := hide hh
  have RB := hide hb
  have A0 := hide ((Hand.start w).box #[p, h, b] 30)
  have C := hide (fun W (h1 : RdT W p P) (h2 : RdT W h H) (h3 : RdZ W b B) => goodDisk_calls p h b P H B g W hg h1 h2 h3)
  obtain ⟨ap, cp, rfl, mp, _⟩ := hp.sl
  obtain ⟨ah, ch, rfl, mh, _⟩ := hh.sl
  obtain ⟨ab, cb, rfl, mb, _⟩ := hb.sl
  clear hT hg hp hh hb
  cases g with
  | false =>
    have ng : Hid (¬ gkP P H B) := fun h => by have := HG.out.2 h; simp at this
    obtain ⟨rfl, _, rfl⟩ := HT.out.resolve_left (fun h => ng.out h.2.1.1)
    go_enter Try.func116, Try.ntmps116
    go_wp2_with fail
    refine (C.out _ (RP.out.below A0.out.below) (RH.out.below A0.out.below) (RB.out.below A0.out.below)).mono ?_
    rintro e w1 ⟨rfl, q⟩
    have A1 := hide (A0.out.step q)
    clear q A0
    go_wp2
    go_ret2
    exact ⟨rfl, A1.out.below⟩
  | true =>
  have hgk := HG.out.1 rfl
  have GK := hide hgk
  have n24 : P.length ≤ 24 := hgk.1.2
  have L2 := hide hgk.2.1
  have L3 := hide hgk.2.2.1
  clear hgk HG
  by_cases hA : 0 ≤ A ∧ A < (P.length : Int)
  case neg =>
    obtain ⟨rfl, _, rfl⟩ := HT.out.resolve_left (fun h => hA h.2.1.2.1)
    go_enter Try.func116, Try.ntmps116
    go_wp2_with fail
    refine (C.out _ (RP.out.below A0.out.below) (RH.out.below A0.out.below) (RB.out.below A0.out.below)).mono ?_
    rintro e w1 ⟨rfl, q⟩
    have A1 := hide (A0.out.step q)
    clear q A0
    obtain ⟨c0, c1, c2⟩ := (A1.out.atBox 0 rfl).c3
    go_wp2_with fail
    refine (hasSector_no _ _ _ _ _ _ _ hA (by omega)).mono ?_
    rintro e w2 ⟨rfl, q⟩
    have A2 := hide (A1.out.step q)
    clear q A1 c0 c1 c2
    go_wp2
    go_ret2
    exact ⟨rfl, A2.out.below⟩
  obtain ⟨k, rfl⟩ : ∃ k : Nat, A = (k : Int) := ⟨A.toNat, by omega⟩
  obtain ⟨h0, hlt'⟩ := hA
  have hlt : k < P.length := by omega
  obtain ⟨gb, ob, eb, _, _⟩ := RB.out.cell k (by rw [L3.out]; exact hlt)
  obtain ⟨gh, oh, eh, _, _⟩ := RH.out.cell k (by rw [L2.out]; exact hlt)
  obtain ⟨gp, op, ep, _, _⟩ := RP.out.cell k hlt
  subst eb eh ep
  have hltb : (k : Int) < (B.length : Int) := by rw [L3.out]; omega
  have hlth : (k : Int) < (H.length : Int) := by rw [L2.out]; omega
  have FB : Hid (∀ W, Below w.heap.size w W → W.cell? ⟨gb, ob + k, none⟩ = some (.bool (B.getD k false))) := by
    show ∀ W, _
    intro W hW
    obtain ⟨b', o', e, hc, _⟩ := (RB.out.below hW).cell k (by rw [L3.out]; exact hlt)
    cases e
    exact hc
  have FH : Hid (∀ W, Below w.heap.size w W → W.cell? ⟨gh, oh + k, none⟩ = some (.string (H.getD k ⟨#[]⟩))) := by
    show ∀ W, _
    intro W hW
    obtain ⟨b', o', e, hc, _⟩ := (RH.out.below hW).cell k (by rw [L2.out]; exact hlt)
    cases e
    exact hc
  have FP : Hid (∀ W, Below w.heap.size w W → W.cell? ⟨gp, op + k, none⟩ = some (.string (P.getD k ⟨#[]⟩))) := by
    show ∀ W, _
    intro W hW
    obtain ⟨b', o', e, hc, _⟩ := (RP.out.below hW).cell k hlt
    cases e
    exact hc
  have sH := hide (GK.out.2.2.2.2.1 k hlt)
  have sP := hide (GK.out.2.2.2.1 k hlt)
  have HT2 : Hid ((ok = true ∧ B.getD k false = false ∧ T = rsT P H k) ∨ (ok = false ∧ B.getD k false = true ∧ T = ⟨#[]⟩)) := by
    show _ ∨ _
    rcases HT.out with ⟨h1, h2, h3⟩ | ⟨h1, h2, h3⟩
    · exact .inl ⟨h1, h2.2.2, h3⟩
    · refine .inr ⟨h1, ?_, h3⟩
      cases hB : B.getD k false with
      | true => rfl
      | false => exact absurd ⟨GK.out, ⟨h0, hlt'⟩, hB⟩ h2
  unfold rsT at HT2
  clear HT mp mh mb
  generalize B.getD k false = y at FB HT2
  generalize H.getD k ⟨#[]⟩ = z at FH HT2 sH
  generalize P.getD k ⟨#[]⟩ = u at FP HT2 sP
  cases y with
  | true =>
    obtain ⟨rfl, _, rfl⟩ := HT2.out.resolve_left (fun h => by have := h.2.1; simp at this)
    go_enter Try.func116, Try.ntmps116
    go_wp2_with fail
    refine (C.out _ (RP.out.below A0.out.below) (RH.out.below A0.out.below) (RB.out.below A0.out.below)).mono ?_
    rintro e w1 ⟨rfl, q⟩
    have A1 := hide (A0.out.step q)
    clear q A0
    obtain ⟨c0, c1, c2⟩ := (A1.out.atBox 0 rfl).c3
    go_wp2_with fail
    refine (hasSector_yes _ _ _ _ _ _ _ h0 hlt' (by omega)).mono ?_
    rintro e w2 ⟨rfl, q⟩
    have A2 := hide (A1.out.step q)
    clear q A1 c0 c1 c2
    obtain ⟨c0, c1, c2⟩ := (A2.out.atBox 0 rfl).c3
    have hc := FB.out _ A2.out.below
    go_wp2
    go_ret2
    exact ⟨rfl, A2.out.below⟩
  | false =>
  obtain ⟨rfl, _, hT3⟩ := HT2.out.resolve_right (fun h => by have := h.2.1; simp at this)
  by_cases hz : z.size = 0
  · have hzz := size_zero hz
    subst hzz
    rw [if_pos hz] at hT3
    subst hT3
    go_enter Try.func116, Try.ntmps116
    go_wp2_with fail
    refine (C.out _ (RP.out.below A0.out.below) (RH.out.below A0.out.below) (RB.out.below A0.out.below)).mono ?_
    rintro e w1 ⟨rfl, q⟩
    have A1 := hide (A0.out.step q)
    clear q A0
    obtain ⟨c0, c1, c2⟩ := (A1.out.atBox 0 rfl).c3
    go_wp2_with fail
    refine (hasSector_yes _ _ _ _ _ _ _ h0 hlt' (by omega)).mono ?_
    rintro e w2 ⟨rfl, q⟩
    have A2 := hide (A1.out.step q)
    clear q A1 c0 c1 c2
    obtain ⟨c0, c1, c2⟩ := (A2.out.atBox 0 rfl).c3
    have hcb := FB.out _ A2.out.below
    have hch := FH.out _ A2.out.below
    have hcp := FP.out _ A2.out.below
    go_wp2_with fail
    refine (clone_calls T _ (by have := sP.out; omega)).mono ?_
    rintro e w3 ⟨rfl, q⟩
    have A3 := hide (A2.out.step q)
    clear q A2 c0 c1 c2
    go_wp2
    go_ret2
    exact ⟨rfl, A3.out.below⟩
  · rw [if_neg hz] at hT3
    subst hT3
    obtain ⟨zz1, zz2⟩ := toList_ne (z := T) (fun e => hz (by rw [e]; rfl))
    clear hz
    go_enter Try.func116, Try.ntmps116
    go_wp2_with fail
    refine (C.out _ (RP.out.below A0.out.below) (RH.out.below A0.out.below) (RB.out.below A0.out.below)).mono ?_
    rintro e w1 ⟨rfl, q⟩
    have A1 := hide (A0.out.step q)
    clear q A0
    obtain ⟨c0, c1, c2⟩ := (A1.out.atBox 0 rfl).c3
    go_wp2_with fail
    refine (hasSector_yes _ _ _ _ _ _ _ h0 hlt' (by omega)).mono ?_
    rintro e w2 ⟨rfl, q⟩
    have A2 := hide (A1.out.step q)
    clear q A1 c0 c1 c2
    obtain ⟨c0, c1, c2⟩ := (A2.out.atBox 0 rfl).c3
    have hcb := FB.out _ A2.out.below
    have hch := FH.out _ A2.out.below
    go_wp2_with fail
    refine (clone_calls T _ (by have := sH.out; omega)).mono ?_
    rintro e w3 ⟨rfl, q⟩
    have A3 := hide (A2.out.step q)
    clear q A2 c0 c1 c2
    go_wp2
    go_ret2
    exact ⟨rfl, A3.out.below⟩
end Go.Proofs.Ytpgmocogffolaaa

namespace Go.Proofs.Ytpgmocogffolaaa
open Go.RowKit
set_option linter.unusedVariables false

/-- The places below k where something is held. -/
def hpl (H : List ByteArray) (k : Nat) : List Int := ((List.range k).filter fun i => decide (0 < (H.getD i ⟨#[]⟩).size)).map fun i : Nat => (i : Int)
theorem hpl_yes (H : List ByteArray) (k : Nat) (h : 0 < (H.getD k ⟨#[]⟩).size) : hpl H (k + 1) = hpl H k ++ [(k : Int)] := by
  unfold hpl
  rw [List.range_succ, List.filter_append, List.map_append, List.filter_cons_of_pos (p := fun i => decide (0 < (H.getD i ⟨#[]⟩).size)) (a := k) (decide_eq_true h), List.filter_nil]
  rfl
theorem hpl_no (H : List ByteArray) (k : Nat) (h : ¬ 0 < (H.getD k ⟨#[]⟩).size) : hpl H (k + 1) = hpl H k := by
  unfold hpl
  rw [List.range_succ, List.filter_append, List.map_append, List.filter_cons_of_neg (p := fun i => decide (0 < (H.getD i ⟨#[]⟩).size)) (a := k) (fun e => h (of_decide_eq_true e)), List.filter_nil]
  simp
theorem hpl_len (H : List ByteArray) (k : Nat) : (hpl H k).length ≤ k := by
  unfold hpl
  rw [List.length_map]
  exact Nat.le_trans (List.length_filter_le _ _) (by simp)
theorem hpl_mem (H : List ByteArray) (k : Nat) (x : Int) : x ∈ hpl H k ↔ ∃ i : Nat, x = (i : Int) ∧ i < k ∧ 0 < (H.getD i ⟨#[]⟩).size := by
  unfold hpl
  simp only [List.mem_map, List.mem_filter, List.mem_range, decide_eq_true_eq]
  constructor
  · rintro ⟨i, ⟨h1, h2⟩, rfl⟩
    exact ⟨i, rfl, h1, h2⟩
  · rintro ⟨i, rfl, h1, h2⟩
    exact ⟨i, ⟨h1, h2⟩, rfl⟩
theorem rd_one {w : World} {x : Int} : Rd (w.alloc (.cells #[.int .i64 x] 3)) (.slice (some ⟨w.heap.size, 0, none⟩) 1 1) [x] := by
  refine ⟨_, 1, rfl, by simp, ⟨by unfold maxLen; omega, fun h => by cases h⟩, .inr ⟨w.heap.size, 0, rfl, by simp, fun i hi => ?_⟩⟩
  have : i = 0 := by simpa using hi
  subst this
  rw [cell_of_row _ w.heap.size 0 _ _ _ (heap_alloc_new w _)]
  rfl
theorem own_ge' {w : World} {base : Nat} {v : Value} {xs : List Int} (h : Own w base v xs) : ∀ j, v.ownBlock = some j → base ≤ j := row_low h

set_option maxRecDepth 100000 in
set_option maxHeartbeats 800000 in
theorem heldPlaces_calls (p h b : Value) (H : List ByteArray) (w : World) (hh : RdT w h H) (hn : H.length ≤ 24) :
    Calls Try.prog 134 #[.agg #[p, h, b]] w fun e w' => ∃ v, e = .returned v ∧ Own w' w.heap.size v (hpl H H.length) ∧ Below w.heap.size w w' := by
  obtain ⟨W1, e1⟩ : ∃ W1, W1 = w.alloc (.cells #[p, h, b] 30) := ⟨_, rfl⟩
  have s1 : W1.heap.size = w.heap.size + 1 := by rw [e1]; simp
  have b1 : Below w.heap.size w W1 := by rw [e1]; exact below_box _ _
  have x1 : BoxAt W1 w.heap.size #[p, h, b] 30 := by rw [e1]; exact BoxAt.new _ _ _
  obtain ⟨W2, e2⟩ : ∃ W2, W2 = W1.alloc (.cells #[] 3) := ⟨_, rfl⟩
  have s2 : W2.heap.size = w.heap.size + 1 + 1 := by rw [e2, World.size_alloc, s1]
  have b2 : Below W1.heap.size W1 W2 := by rw [e2]; exact below_box _ _
  have O2 : Hid (Own W2 w.heap.size (.slice (some ⟨w.heap.size + 1, 0, none⟩) 0 0) []) := by
    show World.ownsRow _ _ _ _ _ _ _
    have := World.ownsRow_lit (base := w.heap.size) (e := 3) (size := 1) W1 #[] 0 (by omega) (by unfold maxLen; omega) (by simp)
    rw [e2]
    simpa [s1] using this
  have E2 : Hid ((w.alloc (.cells #[p, h, b] 30)).alloc (.cells #[] 3) = W2) := by show _ = _; rw [e2, e1]
  have BB := hide (b1.trans (b2.mono (by omega)))
  have RH := hide hh
  obtain ⟨ah, ch, rfl, mh, _⟩ := hh.sl
  clear e1 e2 b1 b2 x1 s1 hh
  go_enter Try.func134, Try.ntmps134
  go_wp2
  rw [E2.out]
  go_loopw [3, 4, 5, 10] (fun vo _ _ vi wr => ∃ k : Nat, k ≤ H.length ∧ vi = .int .i64 k ∧ Own wr w.heap.size vo (hpl H k) ∧ Below w.heap.size w wr) (fun _ _ _ vi _ => H.length - (intOf vi).toNat)
  case atStart => exact ⟨0, Nat.zero_le _, rfl, O2.out, BB.out⟩
  case round =>
    obtain ⟨k, hk, rfl, hown, hb⟩ := hrel
    obtain ⟨a0, cap0, rfl⟩ := row_slice hown
    have hge := own_ge' hown
    have hpl1 := hpl_len H k
    have GE := hide hge
    have HB := hide hb
    have O := hide hown
    by_cases hlt : k < H.length
    · obtain ⟨gh, oh, rfl, hc, _⟩ := (RH.out.below hb).cell k hlt
      have Y := hide (hpl_yes H k)
      have N := hide (hpl_no H k)
      generalize H.getD k ⟨#[]⟩ = z at hc Y N
      clear hb hown hge
      have hlt' : (k : Int) < (H.length : Int) := by omega
      by_cases hz : z.size = 0
      · have hzz := size_zero hz
        subst hzz
        clear hz
        go_wp2
        go_roundw
        case rel =>
          refine ⟨k + 1, by omega, by go_num, ?_, HB.out⟩
          rw [N.out (by decide)]
          exact O.out
        case measure => simp [intOf]; omega
      · obtain ⟨zz1, zz2⟩ := toList_ne (z := z) (fun e => hz (by rw [e]; rfl))
        have Z := hide hz
        obtain ⟨m, hm⟩ : ∃ m, m = (hpl H k).length := ⟨_, rfl⟩
        have HM := hide hm
        rw [← hm] at hpl1 GE ⊢
        have o3 : wr.ownsRow w.heap.size 3 1 (.slice a0 m cap0) m ((hpl H k).map (Value.int .i64)) := by rw [hm]; exact O.out
        have O3 := hide (o3.alloc (.cells #[.int .i64 (k : Int)] 3))
        clear hm o3 hz
        go_wp2_with (at_builtin; refine wpList_append_rd rfl _ _ rfl w.heap.size _ m (hpl H k) [((k : Nat) : Int)] rfl O3.out _ rfl rd_one (by simp; omega) (by have := HB.out.size; simp; omega) ?_)
        intro v' w2 o2 g2
        have O4 := hide o2
        have B4 := hide ((HB.out.alloc HB.out.size (.cells #[.int .i64 (k : Int)] 3)).grown g2 (by have := HB.out.size; simp; omega) GE.out)
        clear o2 g2
        go_wp2
        go_roundw
        case rel =>
          refine ⟨k + 1, by omega, by go_num, ?_, B4.out⟩
          rw [Y.out (by have := Z.out; omega)]
          exact O4.out
        case measure => simp [intOf]; omega
    · obtain rfl : k = H.length := by omega
      clear hb hown hge
      go_wp2
      go_ret
      exact ⟨_, rfl, O.out, HB.out⟩

set_option maxRecDepth 100000 in
set_option maxHeartbeats 800000 in
theorem l7Held_calls (p h b : Value) (H : List ByteArray) (w : World) (hh : RdT w h H) (hn : H.length ≤ 24) :
    Calls Try.prog 86 #[.agg #[p, h, b]] w fun e w' => ∃ v, e = .returned v ∧ Own w' w.heap.size v (hpl H H.length) ∧ Below w.heap.size w w' := by
  have BB := hide (below_box w (.cells #[p, h, b] 30))
  have RH := hide hh
  obtain ⟨ah, ch, rfl, mh, _⟩ := hh.sl
  clear hh
  go_enter Try.func86, Try.ntmps86
  go_wp2
  generalize w.alloc (.cells #[p, .slice ah H.length ch, b] 30) = W2 at *
  go_loopw [3, 4, 5, 9] (fun vo _ _ vi wr => ∃ k : Nat, k ≤ H.length ∧ vi = .int .i64 k ∧ Own wr w.heap.size vo (hpl H k) ∧ Below w.heap.size w wr) (fun _ _ _ vi _ => H.length - (intOf vi).toNat)
  case atStart => exact ⟨0, Nat.zero_le _, rfl, World.ownsRow_nil _ _ _ _, BB.out⟩
  case round =>
    obtain ⟨k, hk, rfl, hown, hb⟩ := hrel
    obtain ⟨a0, cap0, rfl⟩ := row_slice hown
    have hge := own_ge' hown
    have hpl1 := hpl_len H k
    have GE := hide hge
    have HB := hide hb
    have O := hide hown
    by_cases hlt : k < H.length
    · obtain ⟨gh, oh, rfl, hc, _⟩ := (RH.out.below hb).cell k hlt
      have Y := hide (hpl_yes H k)
      have N := hide (hpl_no H k)
      generalize H.getD k ⟨#[]⟩ = z at hc Y N
      clear hb hown hge
      have hlt' : (k : Int) < (H.length : Int) := by omega
      by_cases hz : z.size = 0
      · have hzz := size_zero hz
        subst hzz
        clear hz
        go_wp2
        go_roundw
        case rel =>
          refine ⟨k + 1, by omega, by go_num, ?_, HB.out⟩
          rw [N.out (by decide)]
          exact O.out
        case measure => simp [intOf]; omega
      · obtain ⟨zz1, zz2⟩ := toList_ne (z := z) (fun e => hz (by rw [e]; rfl))
        have Z := hide hz
        obtain ⟨m, hm⟩ : ∃ m, m = (hpl H k).length := ⟨_, rfl⟩
        have HM := hide hm
        rw [← hm] at hpl1 GE ⊢
        have o3 : wr.ownsRow w.heap.size 3 1 (.slice a0 m cap0) m ((hpl H k).map (Value.int .i64)) := by rw [hm]; exact O.out
        have O3 := hide (o3.alloc (.cells #[.int .i64 (k : Int)] 3))
        clear hm o3 hz
        go_wp2_with (at_builtin; refine wpList_append_rd rfl _ _ rfl w.heap.size _ m (hpl H k) [((k : Nat) : Int)] rfl O3.out _ rfl rd_one (by simp; omega) (by have := HB.out.size; simp; omega) ?_)
        intro v' w2 o2 g2
        have O4 := hide o2
        have B4 := hide ((HB.out.alloc HB.out.size (.cells #[.int .i64 (k : Int)] 3)).grown g2 (by have := HB.out.size; simp; omega) GE.out)
        clear o2 g2
        go_wp2
        go_roundw
        case rel =>
          refine ⟨k + 1, by omega, by go_num, ?_, B4.out⟩
          rw [Y.out (by have := Z.out; omega)]
          exact O4.out
        case measure => simp [intOf]; omega
    · obtain rfl : k = H.length := by omega
      clear hb hown hge
      go_wp2
      go_ret
      exact ⟨_, rfl, O.out, HB.out⟩
end Go.Proofs.Ytpgmocogffolaaa

namespace Go.Proofs.Ytpgmocogffolaaa
open Go.RowKit
set_option linter.unusedVariables false

theorem step_app0 {W : World} {ops : Array Oper} {o : Oper} {a : Act} {K : Act → World → Prop} {Q : Exit → Act → World → Prop} {E : Prop} (hgd : o.guard = none) (s x : Operand) (t e : TypeId)
    (ho : o.op = .call { callee := .builtin .append, args := #[s, x], argTypes := #[t, t] }) (i : TypeInfo) (z : Value) (bytes : Nat) (ht : Try.prog.underlying t = some (.slice e)) (hi : Try.prog.info? e = some i) (hz : i.zero = some z)
    (hsize : i.size = 1) (hby : i.bytes = bytes) (hzs : z.cells.size = 1) (hb16 : bytes ≤ 16)
    (gs : Nat) (hs : a.eval s = .slice (some ⟨gs, 0, none⟩) 0 0) (ad : Addr) (m c : Nat) (news : List Value) (hx : a.eval x = .slice (some ad) m c) (hl : news.length = m) (hnews : ∀ j u, news[j]? = some u → W.cell? (ad.add j) = some u)
    (hm : 0 < m) (hn : m ≤ 24)
    (h : ∀ v' w', w'.ownsRow W.heap.size e 1 v' m news → Below W.heap.size W w' → K (a.put o.dst v') w') :
    if Region.wanted o (yielded ops a.tmps) = true then Oper.wp Try.prog o a W K Q else E := by
  have hw : Region.wanted o (yielded ops a.tmps) = true := by simp [Region.wanted, hgd]
  rw [if_pos hw]
  have h63 : 0 + m ≤ maxLen := by unfold maxLen; omega
  have hfit : Builtin.nextslicecap (0 + m) 0 * i.bytes ≤ 281474976710656 := by
    refine growslice_fits (by omega) ?_
    rw [hby]
    have h2 : (0 + m) * bytes ≤ 24 * 16 := Nat.mul_le_mul (by omega) hb16
    omega
  have hr := run_append_grow (P := Try.prog) W t o.type e i z ht hi hz ⟨gs, 0, none⟩ 0 0 [] (by simp) (fun j v hv => by simp at hv) ad m c news (by rw [hsize, Nat.mul_one]; exact hl) hnews (by omega) (by omega) hfit
  have hge := grownCap_ge W (0 + m) 0 e
  have hcm : grownCap W (0 + m) 0 e ≤ maxLen := grownCap_le_maxLen W (0 + m) 0 e h63
  rw [Nat.zero_add] at hr hge hcm
  unfold Oper.wp execOp
  simp only [ho, resolve, invoke, builtin, Sem.run_bind, Sem.run_pure, Result.andThen_ok, List.map_toArray, List.map_cons, List.map_nil, hs, hx, hr]
  refine h _ _ ⟨by rw [hl, Nat.mul_one], .inr ⟨W.heap.size, _, _, rfl, Nat.le_refl _, heap_alloc_new W.drew _, hge, hcm, ?_, ?_⟩⟩ ((Below.refl _ _).drew.alloc (by show _ ≤ W.heap.size; exact Nat.le_refl _) _)
  · simp only [Array.size_append, List.size_toArray, size_zeroCells, hzs, hl, List.length_nil]
    omega
  · simp only [Array.toList_append, List.nil_append, Nat.mul_one]
    rw [← hl]
    exact List.take_left

theorem step_app_txt {W : World} {ops : Array Oper} {o : Oper} {a : Act} {K : Act → World → Prop} {Q : Exit → Act → World → Prop} {E : Prop} (hgd : o.guard = none) (s x : Operand)
    (ho : o.op = .call { callee := .builtin .append, args := #[s, x], argTypes := #[22, 22] }) (gs : Nat) (hs : a.eval s = .slice (some ⟨gs, 0, none⟩) 0 0) (v : Value) (hx : a.eval x = v) (xs : List ByteArray) (hr : RdT W v xs) (hm : 0 < xs.length) (hn : xs.length ≤ 24)
    (h : ∀ v' w', OwnT w' W.heap.size v' xs → Below W.heap.size W w' → K (a.put o.dst v') w') :
    if Region.wanted o (yielded ops a.tmps) = true then Oper.wp Try.prog o a W K Q else E := by
  obtain ⟨i0, hi, hz0, hz1, hz2⟩ := info_parts infoStr
  obtain ⟨ad, cap, rfl, h1, h2, h4, h3⟩ := hr
  rcases h3 with h3 | ⟨b, off, rfl, hlt, hc⟩
  · subst h3; simp at hm
  refine step_app0 hgd s x 22 9 ho i0 (.string ⟨#[]⟩) 16 Try.underlying22 hi hz0 hz1 hz2 rfl (by omega) gs hs ⟨b, off, none⟩ xs.length cap (xs.map Value.string) hx (by simp) ?_ hm hn h
  intro j u hu
  have hjl : j < xs.length := by simpa using (List.getElem?_eq_some_iff.1 hu).1
  have hadd : (⟨b, off, none⟩ : Addr).add j = ⟨b, off + j, none⟩ := by unfold Addr.add; split <;> simp_all
  rw [hadd, hc j hjl]
  rw [List.getElem?_map, List.getElem?_eq_getElem hjl] at hu
  simp only [Option.map_some, Option.some.injEq] at hu
  rw [← hu, List.getD_eq_getElem?_getD, List.getElem?_eq_getElem hjl, Option.getD_some]
theorem step_app_bol {W : World} {ops : Array Oper} {o : Oper} {a : Act} {K : Act → World → Prop} {Q : Exit → Act → World → Prop} {E : Prop} (hgd : o.guard = none) (s x : Operand)
    (ho : o.op = .call { callee := .builtin .append, args := #[s, x], argTypes := #[23, 23] }) (gs : Nat) (hs : a.eval s = .slice (some ⟨gs, 0, none⟩) 0 0) (v : Value) (hx : a.eval x = v) (xs : List Bool) (hr : RdZ W v xs) (hm : 0 < xs.length) (hn : xs.length ≤ 24)
    (h : ∀ v' w', OwnZ w' W.heap.size v' xs → Below W.heap.size W w' → K (a.put o.dst v') w') :
    if Region.wanted o (yielded ops a.tmps) = true then Oper.wp Try.prog o a W K Q else E := by
  obtain ⟨i0, hi, hz0, hz1, hz2⟩ := info_parts infoBol
  obtain ⟨ad, cap, rfl, h1, h2, h3⟩ := hr
  rcases h3 with h3 | ⟨b, off, rfl, hlt, hc⟩
  · subst h3; simp at hm
  refine step_app0 hgd s x 23 4 ho i0 (.bool false) 1 Try.underlying23 hi hz0 hz1 hz2 rfl (by omega) gs hs ⟨b, off, none⟩ xs.length cap (xs.map Value.bool) hx (by simp) ?_ hm hn h
  intro j u hu
  have hjl : j < xs.length := by simpa using (List.getElem?_eq_some_iff.1 hu).1
  have hadd : (⟨b, off, none⟩ : Addr).add j = ⟨b, off + j, none⟩ := by unfold Addr.add; split <;> simp_all
  rw [hadd, hc j hjl]
  rw [List.getElem?_map, List.getElem?_eq_getElem hjl] at hu
  simp only [Option.map_some, Option.some.injEq] at hu
  rw [← hu, List.getD_eq_getElem?_getD, List.getElem?_eq_getElem hjl, Option.getD_some]
end Go.Proofs.Ytpgmocogffolaaa

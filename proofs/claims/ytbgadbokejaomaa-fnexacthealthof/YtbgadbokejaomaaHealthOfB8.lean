/-
  A sector read: a text's copy, the program's ReadSector and its model's, call by call. Each contract says what it asks. What a stripe's sectors tell: which are lost, their Epochs, the right one, those others. Mathematics; no call is walked here.
-/
import Derived.Test.YtbgadbokejaomaaHealthOfB7
import Derived.Lib.Strings
import Derived.Lib.BufferWrite
import Derived.Lib.UnsafeStr
namespace Go.Proofs.Ytbgadbokejaomaa
open Go.RowKit
set_option linter.unusedVariables false

theorem infoU8c : (Try.prog.info? 5).map (fun i => (i.zero, i.size, i.bytes)) = some (some (.int .u8 0), 1, 1) := by kernel_rfl

set_option maxHeartbeats 4000000 in
set_option maxRecDepth 100000 in
theorem clone0_calls (s : ByteArray) (w : World) (hlim : s.size ≤ 1048576) :
    Calls Try.prog 60 #[.string s] w fun e w' => e = .returned (.string s) ∧ Below w.heap.size w w' := by
  by_cases h0 : s.size = 0
  · have hs : s = ⟨#[]⟩ := by
      apply ByteArray.ext
      exact Array.eq_empty_of_size_eq_zero h0
    subst hs
    go_enter Try.func60, Try.ntmps60
    go_wp2
    go_ret
    exact ⟨rfl, Below.refl _ _⟩
  · obtain ⟨i0, hi, hz0, hz1, hz2⟩ := info_parts infoU8c
    have hinfo : (Try.prog.info? 5).map (·.size) = some 1 := by rw [hi]; simp [hz1]
    have hco : Try.prog.cellsOf 5 = 1 := by simp [Program.cellsOf, hi, hz1]
    obtain ⟨M, hM⟩ : ∃ M, M = madeCells (Value.int .u8 0).cells (((s.size : Nat) : Int).toNat * i0.size) := ⟨_, rfl⟩
    have hMs : M.size = s.size := by rw [hM, size_madeCells, hz1]; simp
    have hmk : ∀ W : World, (Instr.makeSlice 83 (.int .i64 (s.size : Int)) (.int .i64 (s.size : Int))).run Try.prog W = .ok (.slice (some ⟨W.heap.size, 0, none⟩) s.size s.size) (W.alloc (.cells M 5)) := fun W => by
      have h := run_make (P := Try.prog) W 83 5 i0 (.int .u8 0) Try.underlying83 hi hz0 .i64 .i64 (s.size : Int) (s.size : Int) (by omega) (by omega) (by rw [hz2]; omega) (by omega)
      rw [← hM] at h
      simpa using h
    clear hM
    have hcp := Lib.run_copy_row_string (P := Try.prog) (w.alloc (.cells M 5)) 83 9 3 5 w.heap.size 0 s.size s.size s M 5 Try.underlying83 hinfo (heap_alloc_new w _) (Nat.le_refl _) (by omega)
    obtain ⟨Y, hY⟩ : ∃ Y, Y = (M.toList.take 0 ++ Lib.byteCells s.data.toList ++ M.toList.drop (0 + s.size)).toArray := ⟨_, rfl⟩
    rw [← hY] at hcp
    have hYl : Y.toList = Lib.byteCells s.data.toList := by
      rw [hY, List.toList_toArray, List.take_zero, List.nil_append, List.drop_of_length_le (by rw [Array.length_toList]; omega), List.append_nil]
    have hYs : Y.size = s.size := by rw [← Array.length_toList, hYl, Lib.byteCells_length, ← Lib.size_eq]
    have hgY : ((w.alloc (.cells M 5)).setRow w.heap.size Y).heap[w.heap.size]? = some (.cells Y 5 (0, 0)) := setRow_heap _ _ M _ 5 (0, 0) (heap_alloc_new w _)
    have hne : s.data.toList ≠ [] := fun e => h0 (by rw [Lib.size_eq, e]; rfl)
    have hUS := Lib.run_unsafeString_row (P := Try.prog) ((w.alloc (.cells M 5)).setRow w.heap.size Y) 97 3 9 5 Try.underlying97 hco w.heap.size Y.size (by unfold World.shape?; rw [hgY]) s.data.toList hne (by rw [← Lib.size_eq]; omega) (by rw [← Lib.size_eq]; omega)
      (fun j x hx => Lib.cells_of_row hgY Y.size j _ (by rw [List.take_of_length_le (by rw [Array.length_toList]; exact Nat.le_refl _), hYl]; simp [Lib.byteCells, hx]))
    rw [← Lib.size_eq] at hUS
    clear hY hi hz0 hz1 hz2
    go_enter Try.func60, Try.ntmps60
    go_wp2
    go_ret
    have hb1 : Below w.heap.size w (w.alloc (.cells M 5)) := (Below.refl _ w).alloc (Nat.le_refl _) _
    have hb2 : Below w.heap.size (w.alloc (.cells M 5)) ((w.alloc (.cells M 5)).setRow w.heap.size Y) := ⟨rfl, rfl, rfl, by simp, fun k hk => setRow_other _ _ _ _ (by omega)⟩
    exact ⟨rfl, Lib.below_freeze (hb1.trans hb2) (p := ⟨w.heap.size, 0, none⟩) (Nat.le_refl _) _⟩

set_option maxRecDepth 100000 in
theorem clone_calls (s : ByteArray) (w : World) (hlim : s.size ≤ 1048576) :
    Calls Try.prog 58 #[.string s] w fun e w' => e = .returned (.string s) ∧ Below w.heap.size w w' := by
  go_enter Try.func58, Try.ntmps58
  go_wp2_with fail
  refine (clone0_calls s _ hlim).mono ?_
  rintro e w1 ⟨rfl, q⟩
  go_wp2
  go_ret
  exact ⟨rfl, q⟩

set_option maxRecDepth 100000 in
theorem hasSector_yes (ap : Option Addr) (n cp : Nat) (h b : Value) (A : Int) (w : World) (h0 : 0 ≤ A) (h1 : A < (n : Int)) (hn : n ≤ 1048576) :
    Calls Try.prog 57 #[.agg #[.slice ap n cp, h, b], .int .i64 A] w fun e w' => e = .returned (.bool true) ∧ Below w.heap.size w w' := by
  have B0 := hide (below_box w (.cells #[.slice ap n cp, h, b] 32))
  go_enter Try.func57, Try.ntmps57
  go_wp2
  go_ret
  exact ⟨by simp, B0.out⟩
set_option maxRecDepth 100000 in
theorem hasSector_no (ap : Option Addr) (n cp : Nat) (h b : Value) (A : Int) (w : World) (h0 : ¬ (0 ≤ A ∧ A < (n : Int))) (hn : n ≤ 1048576) :
    Calls Try.prog 57 #[.agg #[.slice ap n cp, h, b], .int .i64 A] w fun e w' => e = .returned (.bool false) ∧ Below w.heap.size w w' := by
  have B0 := hide (below_box w (.cells #[.slice ap n cp, h, b] 32))
  by_cases h1 : 0 ≤ A
  · have h2 : ¬ A < (n : Int) := fun e => h0 ⟨h1, e⟩
    clear h0
    go_enter Try.func57, Try.ntmps57
    go_wp2
    go_ret
    exact ⟨by simp, B0.out⟩
  · clear h0
    go_enter Try.func57, Try.ntmps57
    go_wp2
    go_ret
    exact ⟨rfl, B0.out⟩

/-- What ReadSector answers. -/
def rsOk (P H : List ByteArray) (B : List Bool) (A : Int) : Prop := gkP P H B ∧ (0 ≤ A ∧ A < (P.length : Int)) ∧ B.getD A.toNat false = false
/-- What a sector tells. -/
def rsT (P H : List ByteArray) (k : Nat) : ByteArray := if (H.getD k ⟨#[]⟩).size = 0 then P.getD k ⟨#[]⟩ else H.getD k ⟨#[]⟩
theorem size_zero {z : ByteArray} (h : z.size = 0) : z = ⟨#[]⟩ := by
  apply ByteArray.ext
  exact Array.eq_empty_of_size_eq_zero h
theorem rs_cases (P H : List ByteArray) (B : List Bool) (A : Int) : ∃ (T : ByteArray) (ok : Bool), (ok = true ∧ rsOk P H B A ∧ T = rsT P H A.toNat) ∨ (ok = false ∧ ¬ rsOk P H B A ∧ T = ⟨#[]⟩) := by
  by_cases h : rsOk P H B A
  · exact ⟨_, true, .inl ⟨rfl, h, rfl⟩⟩
  · exact ⟨_, false, .inr ⟨rfl, h, rfl⟩⟩

set_option maxRecDepth 100000 in
set_option maxHeartbeats 1600000 in
theorem readSector_calls (p h b : Value) (P H : List ByteArray) (B : List Bool) (A : Int) (T : ByteArray) (ok : Bool) (w : World) (hT : (ok = true ∧ rsOk P H B A ∧ T = rsT P H A.toNat) ∨ (ok = false ∧ ¬ rsOk P H B A ∧ T = ⟨#[]⟩)) (hp : RdT w p P) (hh : RdT w h H) (hb : RdZ w b B) :
    Calls Try.prog 52 #[.agg #[p, h, b], .int .i64 A] w fun e w' => e = .returned (.tuple #[.string T, .bool ok]) ∧ Below w.heap.size w w' := by
  obtain ⟨g, hg⟩ := gk_bool' P H B
  have HG := hide hg
  have HT := hide hT
  have RP := hide hp
  have RH := hide hh
  have RB := hide hb
  have A0 := hide ((Hand.start w).box #[p, h, b] 32)
  have C := hide (fun W (h1 : RdT W p P) (h2 : RdT W h H) (h3 : RdZ W b B) => goodDisk_calls p h b P H B g W hg h1 h2 h3)
  obtain ⟨ap, cp, rfl, mp, _⟩ := hp.sl
  obtain ⟨ah, ch, rfl, mh, _⟩ := hh.sl
  obtain ⟨ab, cb, rfl, mb, _⟩ := hb.sl
  clear hT hg hp hh hb
  cases g with
  | false =>
    have ng : Hid (¬ gkP P H B) := fun h => by have := HG.out.2 h; simp at this
    obtain ⟨rfl, _, rfl⟩ := HT.out.resolve_left (fun h => ng.out h.2.1.1)
    go_enter Try.func52, Try.ntmps52
    go_wp2_with fail
    refine (C.out _ (RP.out.below A0.out.below) (RH.out.below A0.out.below) (RB.out.below A0.out.below)).mono ?_
    rintro e w1 ⟨rfl, q⟩
    have A1 := hide (A0.out.step q)
    clear q A0
    go_wp2
    go_ret2
    exact ⟨rfl, A1.out.below⟩
  | true =>
  have hgk := HG.out.1 rfl
  have GK := hide hgk
  have n24 : P.length ≤ 24 := hgk.1.2
  have L2 := hide hgk.2.1
  have L3 := hide hgk.2.2.1
  clear hgk HG
  by_cases hA : 0 ≤ A ∧ A < (P.length : Int)
  case neg =>
    obtain ⟨rfl, _, rfl⟩ := HT.out.resolve_left (fun h => hA h.2.1.2.1)
    go_enter Try.func52, Try.ntmps52
    go_wp2_with fail
    refine (C.out _ (RP.out.below A0.out.below) (RH.out.below A0.out.below) (RB.out.below A0.out.below)).mono ?_
    rintro e w1 ⟨rfl, q⟩
    have A1 := hide (A0.out.step q)
    clear q A0
    obtain ⟨c0, c1, c2⟩ := (A1.out.atBox 0 rfl).c3
    go_wp2_with fail
    refine (hasSector_no _ _ _ _ _ _ _ hA (by omega)).mono ?_
    rintro e w2 ⟨rfl, q⟩
    have A2 := hide (A1.out.step q)
    clear q A1 c0 c1 c2
    go_wp2
    go_ret2
    exact ⟨rfl, A2.out.below⟩
  obtain ⟨k, rfl⟩ : ∃ k : Nat, A = (k : Int) := ⟨A.toNat, by omega⟩
  obtain ⟨h0, hlt'⟩ := hA
  have hlt : k < P.length := by omega
  obtain ⟨gb, ob, eb, _, _⟩ := RB.out.cell k (by rw [L3.out]; exact hlt)
  obtain ⟨gh, oh, eh, _, _⟩ := RH.out.cell k (by rw [L2.out]; exact hlt)
  obtain ⟨gp, op, ep, _, _⟩ := RP.out.cell k hlt
  subst eb eh ep
  have hltb : (k : Int) < (B.length : Int) := by rw [L3.out]; omega
  have hlth : (k : Int) < (H.length : Int) := by rw [L2.out]; omega
  have FB : Hid (∀ W, Below w.heap.size w W → W.cell? ⟨gb, ob + k, none⟩ = some (.bool (B.getD k false))) := by
    show ∀ W, _
    intro W hW
    obtain ⟨b', o', e, hc, _⟩ := (RB.out.below hW).cell k (by rw [L3.out]; exact hlt)
    cases e
    exact hc
  have FH : Hid (∀ W, Below w.heap.size w W → W.cell? ⟨gh, oh + k, none⟩ = some (.string (H.getD k ⟨#[]⟩))) := by
    show ∀ W, _
    intro W hW
    obtain ⟨b', o', e, hc, _⟩ := (RH.out.below hW).cell k (by rw [L2.out]; exact hlt)
    cases e
    exact hc
  have FP : Hid (∀ W, Below w.heap.size w W → W.cell? ⟨gp, op + k, none⟩ = some (.string (P.getD k ⟨#[]⟩))) := by
    show ∀ W, _
    intro W hW
    obtain ⟨b', o', e, hc, _⟩ := (RP.out.below hW).cell k hlt
    cases e
    exact hc
  have sH := hide (GK.out.2.2.2.2.1 k hlt)
  have sP := hide (GK.out.2.2.2.1 k hlt)
  have HT2 : Hid ((ok = true ∧ B.getD k false = false ∧ T = rsT P H k) ∨ (ok = false ∧ B.getD k false = true ∧ T = ⟨#[]⟩)) := by
    show _ ∨ _
    rcases HT.out with ⟨h1, h2, h3⟩ | ⟨h1, h2, h3⟩
    · exact .inl ⟨h1, h2.2.2, h3⟩
    · refine .inr ⟨h1, ?_, h3⟩
      cases hB : B.getD k false with
      | true => rfl
      | false => exact absurd ⟨GK.out, ⟨h0, hlt'⟩, hB⟩ h2
  unfold rsT at HT2
  clear HT mp mh mb
  generalize B.getD k false = y at FB HT2
  generalize H.getD k ⟨#[]⟩ = z at FH HT2 sH
  generalize P.getD k ⟨#[]⟩ = u at FP HT2 sP
  cases y with
  | true =>
    obtain ⟨rfl, _, rfl⟩ := HT2.out.resolve_left (fun h => by have := h.2.1; simp at this)
    go_enter Try.func52, Try.ntmps52
    go_wp2_with fail
    refine (C.out _ (RP.out.below A0.out.below) (RH.out.below A0.out.below) (RB.out.below A0.out.below)).mono ?_
    rintro e w1 ⟨rfl, q⟩
    have A1 := hide (A0.out.step q)
    clear q A0
    obtain ⟨c0, c1, c2⟩ := (A1.out.atBox 0 rfl).c3
    go_wp2_with fail
    refine (hasSector_yes _ _ _ _ _ _ _ h0 hlt' (by omega)).mono ?_
    rintro e w2 ⟨rfl, q⟩
    have A2 := hide (A1.out.step q)
    clear q A1 c0 c1 c2
    obtain ⟨c0, c1, c2⟩ := (A2.out.atBox 0 rfl).c3
    have hc := FB.out _ A2.out.below
    go_wp2
    go_ret2
    exact ⟨rfl, A2.out.below⟩
  | false =>
  obtain ⟨rfl, _, hT3⟩ := HT2.out.resolve_right (fun h => by have := h.2.1; simp at this)
  by_cases hz : z.size = 0
  · have hzz := size_zero hz
    subst hzz
    rw [if_pos hz] at hT3
    subst hT3
    go_enter Try.func52, Try.ntmps52
    go_wp2_with fail
    refine (C.out _ (RP.out.below A0.out.below) (RH.out.below A0.out.below) (RB.out.below A0.out.below)).mono ?_
    rintro e w1 ⟨rfl, q⟩
    have A1 := hide (A0.out.step q)
    clear q A0
    obtain ⟨c0, c1, c2⟩ := (A1.out.atBox 0 rfl).c3
    go_wp2_with fail
    refine (hasSector_yes _ _ _ _ _ _ _ h0 hlt' (by omega)).mono ?_
    rintro e w2 ⟨rfl, q⟩
    have A2 := hide (A1.out.step q)
    clear q A1 c0 c1 c2
    obtain ⟨c0, c1, c2⟩ := (A2.out.atBox 0 rfl).c3
    have hcb := FB.out _ A2.out.below
    have hch := FH.out _ A2.out.below
    have hcp := FP.out _ A2.out.below
    go_wp2_with fail
    refine (clone_calls T _ (by have := sP.out; omega)).mono ?_
    rintro e w3 ⟨rfl, q⟩
    have A3 := hide (A2.out.step q)
    clear q A2 c0 c1 c2
    go_wp2
    go_ret2
    exact ⟨rfl, A3.out.below⟩
  · rw [if_neg hz] at hT3
    subst hT3
    obtain ⟨zz1, zz2⟩ := toList_ne (z := T) (fun e => hz (by rw [e]; rfl))
    clear hz
    go_enter Try.func52, Try.ntmps52
    go_wp2_with fail
    refine (C.out _ (RP.out.below A0.out.below) (RH.out.below A0.out.below) (RB.out.below A0.out.below)).mono ?_
    rintro e w1 ⟨rfl, q⟩
    have A1 := hide (A0.out.step q)
    clear q A0
    obtain ⟨c0, c1, c2⟩ := (A1.out.atBox 0 rfl).c3
    go_wp2_with fail
    refine (hasSector_yes _ _ _ _ _ _ _ h0 hlt' (by omega)).mono ?_
    rintro e w2 ⟨rfl, q⟩
    have A2 := hide (A1.out.step q)
    clear q A1 c0 c1 c2
    obtain ⟨c0, c1, c2⟩ := (A2.out.atBox 0 rfl).c3
    have hcb := FB.out _ A2.out.below
    have hch := FH.out _ A2.out.below
    go_wp2_with fail
    refine (clone_calls T _ (by have := sH.out; omega)).mono ?_
    rintro e w3 ⟨rfl, q⟩
    have A3 := hide (A2.out.step q)
    clear q A2 c0 c1 c2
    go_wp2
    go_ret2
    exact ⟨rfl, A3.out.below⟩
end Go.Proofs.Ytbgadbokejaomaa

namespace Go.Proofs.Ytbgadbokejaomaa
open Go.RowKit
set_option linter.unusedVariables false

/-- What the sector a tells of a piece: its Epoch and its body; none where it is lost. -/
def sk (P H : List ByteArray) (B : List Bool) (least : Int) (a : Nat) : Option (Int × ByteArray) :=
  if B.getD a false = true then none
  else if (ckR (rsT P H a) 2 a least).ok = true ∧ (ckR (rsT P H a) 2 a least).B.size = 16 then some ((ckR (rsT P H a) 2 a least).E, (ckR (rsT P H a) 2 a least).B) else none
def epo (x : Option (Int × ByteArray)) : Int := match x with | none => -1 | some y => y.1
def bdo (x : Option (Int × ByteArray)) : List Nat := match x with | none => List.replicate 16 0 | some y => bs y.2
/-- A piece that was found: its Epoch may stand in a frame, its body is 16 bytes. -/
def okP (x : Option (Int × ByteArray)) : Prop := ∀ y, x = some y → (0 ≤ y.1 ∧ y.1 ≤ 60000) ∧ y.2.size = 16
theorem rd_good {s : ByteArray} (h : (rdR s).ok = true) : goodF (rdR s).K (rdR s).A (rdR s).E (rdR s).B.size := by
  unfold rdR at h ⊢
  split at h
  · rename_i h1
    rw [if_pos h1]
    split at h
    · rename_i h2
      rw [if_pos h2]
      split at h
      · rename_i h3
        rw [if_pos h3]
        have hg := h3.2.1
        refine ⟨hg.1, hg.2.1, ?_⟩
        show (ofN (bodyOf (bs s))).size ≤ 16
        rw [ofN_size]
        unfold bodyOf
        rw [List.length_take]
        have := h3.1
        omega
      · simp [frNo] at h
    · simp [frNo] at h
  · simp [frNo] at h
theorem ck_rd {s : ByteArray} {k a l : Int} (h : (ckR s k a l).ok = true) : ckR s k a l = rdR s ∧ (rdR s).ok = true := by
  unfold ckR at h ⊢
  split at h
  · rename_i h0
    rw [if_pos h0]
    split at h
    · rename_i h1
      rw [if_pos h1]
      split at h
      · rename_i h2
        rw [if_pos h2]
        split at h
        · rename_i h3
          rw [if_pos h3]
          exact ⟨rfl, h0⟩
        · simp [frNo] at h
      · simp [frNo] at h
    · simp [frNo] at h
  · simp [frNo] at h
theorem ck_good {s : ByteArray} {k a l : Int} (h : (ckR s k a l).ok = true) : goodF (ckR s k a l).K (ckR s k a l).A (ckR s k a l).E (ckR s k a l).B.size := by
  obtain ⟨e, h2⟩ := ck_rd h
  rw [e]
  exact rd_good h2
theorem ckR_small (s : ByteArray) (k a l : Int) : (ckR s k a l).B.size ≤ 16 := by
  cases h : (ckR s k a l).ok with
  | true => exact (ck_good h).2.2
  | false =>
    have : (ckR s k a l).B = ⟨#[]⟩ := by
      unfold ckR at h ⊢
      split
      · rename_i h0
        split
        · split
          · split
            · rename_i h1 h2 h3
              rw [if_pos h0, if_pos h1, if_pos h2, if_pos h3, h0] at h
              simp at h
            · rfl
          · rfl
        · rfl
      · rfl
    rw [this]
    exact Nat.zero_le _
theorem sk_ok (P H : List ByteArray) (B : List Bool) (least : Int) (a : Nat) : okP (sk P H B least a) := by
  intro y hy
  unfold sk at hy
  split at hy
  · simp at hy
  · split at hy
    · rename_i h
      simp only [Option.some.injEq] at hy
      subst hy
      exact ⟨(ck_good h.1).2.1, h.2⟩
    · simp at hy
theorem epo_ge {x : Option (Int × ByteArray)} (h : okP x) : -1 ≤ epo x ∧ epo x ≤ 60000 := by
  cases x with
  | none => simp [epo]
  | some y => have := (h y rfl).1; simp only [epo]; omega
theorem bdo_length {x : Option (Int × ByteArray)} (h : okP x) : (bdo x).length = 16 := by
  cases x with
  | none => simp [bdo]
  | some y => simp only [bdo, bs_length]; exact (h y rfl).2
theorem bdo_small (x : Option (Int × ByteArray)) : ∀ b ∈ bdo x, b < 256 := by
  cases x with
  | none => intro b hb; simp only [bdo, List.mem_replicate] at hb; omega
  | some y => exact bs_lt y.2
/-- How many of the first k have this Epoch. -/
def cntE (es : List Int) (e : Int) : Nat → Nat
  | 0 => 0
  | k + 1 => cntE es e k + (if es.getD k 0 = e then 1 else 0)
theorem cntE_le (es : List Int) (e : Int) : ∀ k, cntE es e k ≤ k
  | 0 => Nat.le_refl _
  | k + 1 => by
    have := cntE_le es e k
    simp only [cntE]
    split <;> omega
/-- The greatest of the first k Epochs that three have at least, -1 for none. -/
def rtE (es : List Int) : Nat → Int
  | 0 => -1
  | k + 1 => if 3 ≤ cntE es (es.getD k 0) es.length then max (rtE es k) (es.getD k 0) else rtE es k
theorem rtE_ge (es : List Int) : ∀ k, -1 ≤ rtE es k
  | 0 => Int.le_refl _
  | k + 1 => by
    have := rtE_ge es k
    simp only [rtE]
    split <;> omega
theorem rtE_le (es : List Int) (h : ∀ k, es.getD k 0 ≤ 60000) : ∀ k, rtE es k ≤ 60000
  | 0 => by simp [rtE]
  | k + 1 => by
    have := rtE_le es h k
    have := h k
    simp only [rtE]
    split <;> omega
/-- The right Epoch is one that three have. -/
theorem rtE_has (es : List Int) : ∀ k, 0 ≤ rtE es k → 3 ≤ cntE es (rtE es k) es.length
  | 0, h => by simp [rtE] at h
  | k + 1, h => by
    simp only [rtE] at h ⊢
    split
    · rename_i h3
      rw [if_pos h3] at h
      by_cases hm : rtE es k ≤ es.getD k 0
      · rw [Int.max_eq_right hm]
        exact h3
      · rw [Int.max_eq_left (by omega)] at h ⊢
        exact rtE_has es k h
    · rename_i h3
      rw [if_neg h3] at h
      exact rtE_has es k h
/-- The numbers of the first k that a test picks. -/
def pkE (f : Int → Bool) (es : List Int) : Nat → List Int
  | 0 => []
  | k + 1 => if f (es.getD k 0) = true then pkE f es k ++ [(k : Int)] else pkE f es k
theorem pkE_le (f : Int → Bool) (es : List Int) : ∀ k, (pkE f es k).length ≤ k
  | 0 => Nat.le_refl _
  | k + 1 => by
    have := pkE_le f es k
    simp only [pkE]
    split
    · simp; omega
    · omega
theorem pkE_not (f : Int → Bool) (es : List Int) : ∀ k, (pkE f es k).length + (pkE (fun e => !f e) es k).length = k
  | 0 => rfl
  | k + 1 => by
    have := pkE_not f es k
    simp only [pkE]
    by_cases h : f (es.getD k 0) = true
    · rw [if_pos h, if_neg (by rw [h]; decide), List.length_append]
      simp only [List.length_cons, List.length_nil]
      omega
    · have h' : f (es.getD k 0) = false := by
        cases hh : f (es.getD k 0) with
        | true => exact absurd hh h
        | false => rfl
      rw [if_neg h, if_pos (by rw [h']; rfl), List.length_append]
      simp only [List.length_cons, List.length_nil]
      omega
theorem pkE_cnt (es : List Int) (r : Int) (f : Int → Bool) (hf : ∀ e, f e = decide (e = r)) : ∀ k, (pkE f es k).length = cntE es r k
  | 0 => rfl
  | k + 1 => by
    have := pkE_cnt es r f hf k
    simp only [pkE, cntE, hf, decide_eq_true_eq]
    split
    · simp; omega
    · simpa using this
theorem pkE_mem (f : Int → Bool) (es : List Int) : ∀ k x, x ∈ pkE f es k → 0 ≤ x ∧ x < (k : Int)
  | 0, x, h => by simp [pkE] at h
  | k + 1, x, h => by
    simp only [pkE] at h
    split at h
    · rcases List.mem_append.1 h with h | h
      · have := pkE_mem f es k x h
        omega
      · simp at h
        omega
    · have := pkE_mem f es k x h
      omega
/-- A sector is one of the right Epoch's. -/
def isE (r e : Int) : Bool := decide (e = r ∧ 0 ≤ e)
/-- Those others. -/
def othE (es : List Int) (r : Int) (k : Nat) : List Int := pkE (fun e => !isE r e) es k
def losE (es : List Int) (k : Nat) : List Int := pkE (fun e => decide (e < 0)) es k
def staE (es : List Int) (r : Int) (k : Nat) : List Int := pkE (fun e => decide (0 ≤ e ∧ ¬ e = r)) es k
theorem othE_few {es : List Int} (h : 0 ≤ rtE es es.length) : (othE es (rtE es es.length) es.length).length ≤ es.length - 3 := by
  have h1 := rtE_has es es.length h
  have h2 := pkE_not (isE (rtE es es.length)) es es.length
  have h3 := pkE_cnt es (rtE es es.length) (isE (rtE es es.length)) (fun e => by
    unfold isE
    refine decide_eq_decide.2 ⟨fun h => h.1, fun h' => ⟨h', by omega⟩⟩) es.length
  unfold othE
  omega
theorem othE_all {es : List Int} {r : Int} (h : r < 0) : ∀ k, (othE es r k).length = k := by
  intro k
  have h2 := pkE_not (isE r) es k
  have h3 : (pkE (isE r) es k).length = 0 := by
    clear h2
    induction k with
    | zero => rfl
    | succ k ih =>
      have hf : isE r (es.getD k 0) = false := decide_eq_false (fun h' => by omega)
      simp only [pkE, hf]
      simpa using ih
  unfold othE
  omega
end Go.Proofs.Ytbgadbokejaomaa

/-
  The two tables (powers of 2, and their places), as the program and its model make them; the laws that hold the two against each other. The program's table of rests must hold its seven numbers where the program's own functions are called.
-/
import Derived.Test.YtghehmoabioobaaDoorField
import Derived.Test.YtghehmoabioobaaDoorInts
namespace Go.Proofs.YtghehmoabioobaaDoor
open Go.RowKit
namespace Gf

def ex : Nat → Nat
  | 0 => 1
  | n + 1 => mul (ex n) 2
theorem ex_lt (n : Nat) : ex n < 256 := by
  induction n with
  | zero => decide
  | succ n ih => exact mul_lt ih
def expL : List Int := (List.range 255).map fun i => (ex i : Int)
theorem expL_length : expL.length = 255 := by simp [expL]
theorem expL_getD (k : Nat) (h : k < 255) : expL.getD k 0 = (ex k : Int) := by simp [expL, h]
theorem tab_setCell {B : Nat} {w w' : World} (hT : Tab w) (h0 : 0 < B) (hb : Below B w w') : Tab w' := fun k hk => (hb.cell (p := ⟨0, k, none⟩) h0).trans (hT k hk)
theorem tab_pos {w : World} (hT : Tab w) : 0 < w.heap.size := by
  have h := hT 0 (by decide)
  unfold World.cell? at h
  cases hh : w.heap[0]? with
  | none => simp [hh] at h
  | some o => exact (Array.getElem?_eq_some_iff.1 hh).1
theorem Tab.below {w w' : World} (hT : Tab w) (hb : Below w.heap.size w w') : Tab w' := tab_setCell hT (tab_pos hT) hb

set_option maxRecDepth 100000 in
set_option maxHeartbeats 400000 in
theorem expTable_calls (w : World) (hT : Tab w) :
    Calls Tryd.prog 22 #[] w fun e w' => ∃ v', e = .returned v' ∧ Own w' w.heap.size v' expL ∧ Below w.heap.size w w' := by
  obtain ⟨i0, hi, hz0, hz1, hz2⟩ := info_parts infoInt
  have HT : Hid (Tab w) := hT
  clear hT
  go_enter Tryd.func22, Tryd.ntmps22
  go_wp2_with (at_make; refine wpList_make_full _ rfl _ _ 28 rfl w.heap.size 3 i0 (.int .i64 0) 1 Tryd.underlying28 hi hz0 hz1 _ _ _ _ 255 rfl rfl (by omega) (by omega) ?b2 ?b3 (Nat.le_refl _) ?_)
  case b2 => rw [hz2]; omega
  case b3 => unfold maxLen; omega
  intro w0 hown0 hgrow0
  go_wp2
  go_loopw [2, 7] (fun vp vi wr => ∃ k : Nat, k ≤ 255 ∧ vi = .int .i64 k ∧ vp = .int .i64 (ex k : Nat) ∧ wr.ownsRow w.heap.size 3 1 (.slice (some ⟨w.heap.size, 0, none⟩) 255 255) 255 ((cpTo expL k).map (Value.int .i64)) ∧ Below w.heap.size w wr) (fun _ vi _ => 255 - (intOf vi).toNat)
  case atStart =>
    refine ⟨0, Nat.zero_le _, rfl, rfl, ?_, (Below.refl _ _).grown hgrow0 (Nat.le_refl _) (fun k h => by cases h)⟩
    rw [cpTo_zero, expL_length]
    simpa only [toList_madeCells_one, Value.cells, List.map_replicate] using hown0
  case round =>
    obtain ⟨k, hk, rfl, rfl, hown, hb⟩ := hrel
    by_cases hlt : k < 255
    · have hlt' : (k : Int) < 255 := by omega
      have hc2 : wr.frozen? ⟨w.heap.size, k, none⟩ = false := hown.frozenAt k
      obtain ⟨old, hc3⟩ : ∃ old, wr.cell? ⟨w.heap.size, k, none⟩ = some old := by
        rw [hown.cellAt k (by omega)]
        have := cpTo_length expL k (by rw [expL_length]; omega)
        rw [expL_length] at this
        exact ⟨_, List.getElem?_eq_getElem (by simp; omega)⟩
      have hst := hown.stored k (.int .i64 (ex k : Nat))
      have K := hide hst
      have hex := ex_lt k
      clear hst
      go_wp2_with (go_at_call 48; refine (mulE_calls _ _ _ (by exact HT.out.below (hb.setCell (Nat.le_refl _) _)) (by omega) (by omega) (by omega) (by omega)).mono ?_; rintro e w' ⟨rfl, rfl⟩)
      go_roundw
      case rel =>
        refine ⟨k + 1, by omega, by go_num, rfl, ?_, ?_⟩
        · have := K.out.1
          rw [← List.map_set, ← expL_getD k hlt, cpTo_step expL k (by rw [expL_length]; omega), expL_getD k hlt] at this
          exact this
        · exact hb.setCell (Nat.le_refl _) _
      case measure => simp [intOf]; omega
    · obtain rfl : k = 255 := by omega
      go_wp2
      go_ret
      refine ⟨_, rfl, ?_, hb⟩
      have e : cpTo expL 255 = expL := by have := cpTo_end expL; rwa [expL_length] at this
      rw [e] at hown
      show World.ownsRow _ _ _ _ _ expL.length _
      rw [expL_length]
      exact hown

/-- A slice's length, for a loop's measure. -/
def lenOf : Value → Nat
  | .slice _ n _ => n
  | _ => 0
def expTo (k : Nat) : List Int := expL.take k
theorem expL_take (k : Nat) (h : k < 255) : expTo k ++ [(ex k : Int)] = expTo (k + 1) := by
  unfold expTo
  have h' : k < expL.length := by rw [expL_length]; exact h
  rw [List.take_succ_eq_append_getElem h']
  have := expL_getD k h
  rw [List.getD_eq_getElem?_getD, List.getElem?_eq_getElem h', Option.getD_some] at this
  rw [this]
theorem expL_take_length (k : Nat) (h : k ≤ 255) : (expL.take k).length = k := by rw [List.length_take, expL_length]; omega
theorem expL_take_get (k j : Nat) (h : k ≤ 255) (hj : j < k) : ((expTo k).map (Value.int .i64))[j]? = some (.int .i64 (ex j : Nat)) := by
  unfold expTo
  have h' : j < expL.length := by rw [expL_length]; omega
  rw [List.getElem?_map, List.getElem?_take, if_pos hj, List.getElem?_eq_getElem h']
  have := expL_getD j (by omega)
  rw [List.getD_eq_getElem?_getD, List.getElem?_eq_getElem h', Option.getD_some] at this
  rw [this]; rfl

set_option maxRecDepth 100000 in
set_option maxHeartbeats 400000 in
theorem sExpTable_calls (w : World) :
    Calls Tryd.prog 40 #[] w fun e w' => ∃ v', e = .returned v' ∧ Own w' w.heap.size v' expL ∧ Below w.heap.size w w' := by
  obtain ⟨i0, hi, hz0, hz1, hz2⟩ := info_parts infoInt
  go_enter Tryd.func40, Tryd.ntmps40
  go_wp2
  go_loopw [1] (fun vo wr => ∃ (k g cap : Nat), 1 ≤ k ∧ k ≤ 255 ∧ vo = .slice (some ⟨g, 0, none⟩) k cap ∧ wr.ownsRow w.heap.size 3 1 (.slice (some ⟨g, 0, none⟩) k cap) k ((expTo k).map (Value.int .i64)) ∧ Below w.heap.size w wr) (fun vo _ => 255 - lenOf vo)
  case atStart =>
    refine ⟨1, w.heap.size, 1, Nat.le_refl _, by omega, rfl, ?_, (Below.refl _ _).alloc (Nat.le_refl _) _⟩
    exact World.ownsRow_lit w #[.int .i64 1] 1 (Nat.le_refl _) (by decide) (by rfl)
  case round =>
    obtain ⟨k, g, cap, hk1, hk, rfl, hown, hb⟩ := hrel
    by_cases hlt : k < 255
    · have hlt' : (k : Int) < 255 := by omega
      have hc : wr.cell? ⟨g, k - 1, none⟩ = some (.int .i64 (ex (k - 1) : Nat)) := by
        rw [hown.cellAt (k - 1) (by omega), expL_take_get k (k - 1) hk (by omega)]
      have e1 : ((k : Int) - 1).toNat = k - 1 := by omega
      have h01 : (0 : Int) ≤ (k : Int) - 1 := by omega
      have h02 : (k : Int) - 1 < k := by omega
      have hex := ex_lt (k - 1)
      have hsz := hb.size
      go_wp2_with (first
        | (go_at_call 50; refine (l1Mul_calls _ _ _ (by omega) (by omega) (by omega) (by omega)).mono ?_; rintro e w' ⟨rfl, rfl⟩)
        | (at_builtin; refine wpList_append_own _ rfl _ _ 28 rfl w.heap.size 3 i0 (.int .i64 0) 1 8 Tryd.underlying28 hi hz0 hz1 hz2 rfl (by decide) _ _ _ rfl (hown.alloc _) ⟨wr.heap.size, 0, none⟩ 1 1 [.int .i64 (mul (ex (k - 1)) 2 : Nat)] rfl rfl ?c1 ?c2 ?c3 ?c4 ?c5 ?_))
      case c1 =>
        intro j u hj
        match j, hj with
        | 0, hj => simp at hj; subst hj; simp [Addr.add]
      case c2 => intro u hu; simp at hu; subst hu; rfl
      case c3 => unfold maxLen; omega
      case c4 => omega
      case c5 => simp; omega
      intro v' w1 hown' hgrow _
      have hne : ∃ g' cap', v' = .slice (some ⟨g', 0, none⟩) (k + 1) cap' := by
        rcases hown'.2 with ⟨_, h0⟩ | ⟨g', cap', cur, h', _⟩
        · omega
        · exact ⟨g', cap', h'⟩
      obtain ⟨g', cap', hv'⟩ := hne
      rw [hv'] at hown' ⊢
      have K := hide hown'
      have L := hide hgrow
      have hb' : Below w.heap.size w w1 := by
        refine (hb.alloc hsz _).grown hgrow (by simp; omega) ?_
        intro j hj
        simp [Value.ownBlock] at hj
        have := (hown.lt g rfl).1
        omega
      have B := hide hb'
      clear hown' hgrow hb'
      go_wp2
      go_roundw
      case rel =>
        refine ⟨k + 1, g', cap', by omega, by omega, rfl, ?_, B.out⟩
        have e2 : k - 1 + 1 = k := Nat.sub_add_cancel hk1
        have := K.out
        have e3 : mul (ex (k - 1)) 2 = ex k := by show ex (k - 1 + 1) = _; rw [e2]
        rw [e3, show [Value.int .i64 (ex k : Nat)] = [((ex k : Nat) : Int)].map (Value.int .i64) from rfl, ← List.map_append, expL_take k hlt] at this
        exact this
      case measure => simp [lenOf]; omega
    · obtain rfl : k = 255 := by omega
      go_wp2
      go_ret
      refine ⟨_, rfl, ?_, hb⟩
      have e : expTo 255 = expL := List.take_of_length_le (by rw [expL_length]; exact Nat.le_refl _)
      rw [e] at hown
      show World.ownsRow _ _ _ _ _ expL.length _
      rw [expL_length]
      exact hown

/-- The places so far. -/
def logTo : Nat → List Int
  | 0 => List.replicate 256 0
  | k + 1 => (logTo k).set (ex k) k
def logL : List Int := logTo 255
theorem logTo_length (k : Nat) : (logTo k).length = 256 := by
  induction k with
  | zero => exact List.length_replicate
  | succ k ih => simp [logTo, ih]
theorem logL_length : logL.length = 256 := logTo_length 255

set_option maxRecDepth 100000 in
set_option maxHeartbeats 400000 in
theorem logTable_calls (w : World) (hT : Tab w) :
    Calls Tryd.prog 23 #[] w fun e w' => ∃ v', e = .returned v' ∧ Own w' w.heap.size v' logL ∧ Below w.heap.size w w' := by
  obtain ⟨i0, hi, hz0, hz1, hz2⟩ := info_parts infoInt
  have HT : Hid (Tab w) := hT
  clear hT
  go_enter Tryd.func23, Tryd.ntmps23
  go_wp2_with (at_make; refine wpList_make_full _ rfl _ _ 28 rfl w.heap.size 3 i0 (.int .i64 0) 1 Tryd.underlying28 hi hz0 hz1 _ _ _ _ 256 rfl rfl (by omega) (by omega) ?b2 ?b3 (Nat.le_refl _) ?_)
  case b2 => rw [hz2]; omega
  case b3 => unfold maxLen; omega
  intro w0 hown0 hgrow0
  go_wp2
  go_loopw [2, 5] (fun vp vi wr => ∃ k : Nat, k ≤ 255 ∧ vi = .int .i64 k ∧ vp = .int .i64 (ex k : Nat) ∧ wr.ownsRow w.heap.size 3 1 (.slice (some ⟨w.heap.size, 0, none⟩) 256 256) 256 ((logTo k).map (Value.int .i64)) ∧ Below w.heap.size w wr) (fun _ vi _ => 255 - (intOf vi).toNat)
  case atStart =>
    refine ⟨0, Nat.zero_le _, rfl, rfl, ?_, (Below.refl _ _).grown hgrow0 (Nat.le_refl _) (fun k h => by cases h)⟩
    simp only [logTo]
    simpa only [toList_madeCells_one, Value.cells, List.map_replicate] using hown0
  case round =>
    obtain ⟨k, hk, rfl, rfl, hown, hb⟩ := hrel
    by_cases hlt : k < 255
    · have hlt' : (k : Int) < 255 := by omega
      have hex := ex_lt k
      have hc2 : wr.frozen? ⟨w.heap.size, ex k, none⟩ = false := hown.frozenAt (ex k)
      obtain ⟨old, hc3⟩ : ∃ old, wr.cell? ⟨w.heap.size, ex k, none⟩ = some old := by
        rw [hown.cellAt (ex k) (by omega)]
        have := logTo_length k
        exact ⟨_, List.getElem?_eq_getElem (by simp; omega)⟩
      have hst := hown.stored (ex k) (.int .i64 k)
      have K := hide hst
      clear hst
      have hex' : ((ex k : Nat) : Int) < 256 := by omega
      go_wp2_with (go_at_call 48; refine (mulE_calls _ _ _ (by exact HT.out.below (hb.setCell (Nat.le_refl _) _)) (by omega) (by omega) (by omega) (by omega)).mono ?_; rintro e w' ⟨rfl, rfl⟩)
      go_roundw
      case rel =>
        refine ⟨k + 1, by omega, by go_num, rfl, ?_, ?_⟩
        · have := K.out.1
          rw [← List.map_set] at this
          exact this
        · exact hb.setCell (Nat.le_refl _) _
      case measure => simp [intOf]; omega
    · obtain rfl : k = 255 := by omega
      go_wp2
      go_ret
      refine ⟨_, rfl, ?_, hb⟩
      show World.ownsRow _ _ _ _ _ logL.length _
      rw [logL_length]
      exact hown

/-- An owned slice that is not empty, opened. -/
theorem Own.open {w : World} {base : Nat} {v : Value} {xs : List Int} (h : Own w base v xs) (hn : 0 < xs.length) :
    ∃ g cap, v = .slice (some ⟨g, 0, none⟩) xs.length cap ∧ base ≤ g ∧ g < w.heap.size ∧ ∀ i, i < xs.length → w.cell? ⟨g, i, none⟩ = some (.int .i64 (xs.getD i 0)) := by
  rcases h.2 with ⟨_, h0⟩ | ⟨g, cap, cur, rfl, hb, hg, _⟩
  · omega
  · refine ⟨g, cap, rfl, hb, (Array.getElem?_eq_some_iff.1 hg).1, fun i hi => ?_⟩
    rw [World.ownsRow.cellAt h i (by omega)]
    simp [hi]

set_option maxRecDepth 100000 in
set_option maxHeartbeats 400000 in
theorem sLogTable_calls (w : World) :
    Calls Tryd.prog 44 #[] w fun e w' => ∃ v', e = .returned v' ∧ Own w' w.heap.size v' logL ∧ Below w.heap.size w w' := by
  obtain ⟨i0, hi, hz0, hz1, hz2⟩ := info_parts infoInt
  go_enter Tryd.func44, Tryd.ntmps44
  go_wp2_with (at_make; refine wpList_make_full _ rfl _ _ 28 rfl w.heap.size 3 i0 (.int .i64 0) 1 Tryd.underlying28 hi hz0 hz1 _ _ _ _ 256 rfl rfl (by omega) (by omega) ?b2 ?b3 (Nat.le_refl _) ?_)
  case b2 => rw [hz2]; omega
  case b3 => unfold maxLen; omega
  intro w0 hown0 hgrow0
  have O := hide hown0
  have G := hide hgrow0
  clear hown0 hgrow0
  go_wp2_with fail
  refine (sExpTable_calls _).mono ?_
  rintro e w1 ⟨v5, rfl, hown5, hb5⟩
  obtain ⟨g, cap, hv5, hg1, hg2, hc5⟩ := Own.open hown5 (by rw [expL_length]; omega)
  rw [expL_length] at hv5 hc5
  subst hv5
  have hlt0 : w.heap.size < w0.heap.size := (World.ownsRow.lt O.out w.heap.size rfl).2
  have O1 : Hid (w1.ownsRow w.heap.size 3 1 (.slice (some ⟨w.heap.size, 0, none⟩) 256 256) 256 ((logTo 0).map (Value.int .i64))) := by
    have h0 := O.out
    have h1 : w0.ownsRow w.heap.size 3 1 (.slice (some ⟨w.heap.size, 0, none⟩) 256 256) 256 ((logTo 0).map (Value.int .i64)) := by
      simp only [logTo]
      simpa only [toList_madeCells_one, Value.cells, List.map_replicate] using h0
    refine h1.kept (row := none) ⟨hb5.os, hb5.tape, hb5.output, hb5.size, fun k hk _ => hb5.block k hk⟩ (.inr (by simp [Value.ownBlock]))
  have B1 : Hid (Below w.heap.size w w1) := ((Below.refl _ _).grown G.out (Nat.le_refl _) (fun k h => by cases h)).trans (hb5.mono (Nat.le_of_lt hlt0))
  have C1 := hide hc5
  clear hown5 hb5 hc5
  go_wp2
  go_loopw [7] (fun vi wr => ∃ k : Nat, k ≤ 255 ∧ vi = .int .i64 k ∧ wr.ownsRow w.heap.size 3 1 (.slice (some ⟨w.heap.size, 0, none⟩) 256 256) 256 ((logTo k).map (Value.int .i64)) ∧ Below w.heap.size w wr ∧ ∀ i, i < 255 → wr.cell? ⟨g, i, none⟩ = some (.int .i64 (expL.getD i 0))) (fun vi _ => 255 - (intOf vi).toNat)
  case atStart => exact ⟨0, Nat.zero_le _, rfl, O1.out, B1.out, C1.out⟩
  case round =>
    obtain ⟨k, hk, rfl, hown, hb, hce⟩ := hrel
    by_cases hlt : k < 255
    · have hlt' : (k : Int) < 255 := by omega
      have hex := ex_lt k
      have hc1 := hce k hlt
      rw [expL_getD k hlt] at hc1
      have hc2 : wr.frozen? ⟨w.heap.size, ex k, none⟩ = false := hown.frozenAt (ex k)
      obtain ⟨old, hc3⟩ : ∃ old, wr.cell? ⟨w.heap.size, ex k, none⟩ = some old := by
        rw [hown.cellAt (ex k) (by omega)]
        have := logTo_length k
        exact ⟨_, List.getElem?_eq_getElem (by simp; omega)⟩
      have hst := hown.stored (ex k) (.int .i64 k)
      have K := hide hst
      have C := hide hce
      clear hst hce
      have hex' : ((ex k : Nat) : Int) < 256 := by omega
      go_wp2
      go_roundw
      case rel =>
        refine ⟨k + 1, by omega, by go_num, ?_, hb.setCell (Nat.le_refl _) _, ?_⟩
        · have := K.out.1
          rw [← List.map_set] at this
          exact this
        · intro i hi'
          have hne : g ≠ w.heap.size := by omega
          exact (World.cell?_of_block (Below.heap_setCell wr ⟨w.heap.size, ex k, none⟩ _ g hne)).trans (C.out i hi')
      case measure => simp [intOf]; omega
    · obtain rfl : k = 255 := by omega
      go_wp2
      go_ret
      refine ⟨_, rfl, ?_, hb⟩
      show World.ownsRow _ _ _ _ _ logL.length _
      rw [logL_length]
      exact hown
end Gf
end Go.Proofs.YtghehmoabioobaaDoor

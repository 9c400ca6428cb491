/-
  Arguments opened: a slice of held rooms, rooms. No condition; no call is walked here.
-/
import Derived.Test.YtjffjoednmlkiaaFrm
import Derived.Test.YtjffjoednmlkiaaRmv
import Derived.Test.YtjffjoednmlkiaaOpen
import Derived.Lib.SmallJoins
import Derived.SliceStrings
import Derived.Deep.Slices
import Derived.Deep.Strs
namespace Go.Proofs.Ytjffjoednmlkiaa.Frame
open Go.ChangeShapes Go.WideShapes Go.ChangeAt Go.RowKit
set_option linter.unusedVariables false
section
variable {H : Type} {enc : TypeId × Value → H} {W : World}
theorem rdM_ofL {n : Nat} {v : Value} {y : DataW H × List MemPlace} (h : DataW.trod enc Try.prog W 0 (fun _ => true) true n 22 [v] = some y) : ∃ m, RdM W v m := by
  obtain ⟨a, l, c, rfl⟩ : ∃ a l c, v = .slice a l c := by
    rcases Go.Deep.open_int_rows Try.underlying22 Try.underlying36 Try.underlying3 (by kernel_rfl) (by kernel_rfl) h with ⟨hcs, _⟩ | ⟨x, l, c, A, L, C, Z, hcs, _⟩
    · simp only [List.cons.injEq, and_true] at hcs
      exact ⟨_, _, _, hcs⟩
    · simp only [List.cons.injEq, and_true] at hcs
      exact ⟨_, _, _, hcs⟩
  exact rdM_of h rfl
set_option maxRecDepth 100000 in
theorem hl_of {n : Nat} {cs : List Value} {y : DataW H × List MemPlace} (h : DataW.trod enc Try.prog W 0 (fun _ => true) true n 139 cs = some y) :
    ∃ (k z : Int), cs = [.int .i64 k, .int .i64 z] := by
  obtain ⟨y0, y1, m, _, hl, g0, g1⟩ := Go.ChangeShapes.trod_struct2 Try.underlying139 h
  have hl2 : cs.length = 2 := hl.trans (by kernel_rfl)
  obtain ⟨c0, c1, rfl⟩ : ∃ c0 c1, cs = [c0, c1] := by
    match cs, hl2 with
    | [a, b], _ => exact ⟨a, b, rfl⟩
  have k1 : Try.prog.cellsOf 3 = 1 := by kernel_rfl
  simp only [k1, List.drop_zero, List.drop_succ_cons, List.take_succ_cons, List.take_zero] at g0 g1
  obtain ⟨k, e1, _⟩ := DataW.trod_int Try.underlying3 g0
  obtain ⟨z, e2, _⟩ := DataW.trod_int Try.underlying3 g1
  obtain rfl : c0 = .int .i64 k := by simpa using e1
  obtain rfl : c1 = .int .i64 z := by simpa using e2
  exact ⟨k, z, rfl⟩
set_option maxRecDepth 100000 in
theorem rdH_of {n : Nat} {v : Value} {y : DataW H × List MemPlace} (h : DataW.trod enc Try.prog W 0 (fun _ => true) true n 23 [v] = some y) : ∃ xs, RdH W v xs := by
  rcases Go.Deep.open_slice Try.underlying23 h with ⟨hcs, _⟩ | ⟨⟨b, off, sp⟩, len, cap, m, n2, D, Pl, hcs, _, hl, hm, hmm, _, hr⟩
  · simp only [List.cons.injEq, and_true] at hcs
    subst hcs
    exact ⟨[], rdH_nil W⟩
  · simp only [List.cons.injEq, and_true] at hcs
    subst hcs
    have k4 : Try.prog.cellsOf 139 = 2 := by kernel_rfl
    rw [k4] at hr
    have hmc : m = cap := by rw [hmm]; rfl
    have each : ∀ i, ∃ s : Hl, i < len → W.cells? 0 ((⟨b, off, sp⟩ : Addr).add (i * 2)) 2 = some [.int .i64 s.1, .int .i64 s.2] := by
      intro i
      by_cases hi : i < len
      · obtain ⟨cs, h1, h2⟩ := hr i (by omega)
        obtain ⟨k, z, rfl⟩ := hl_of h2
        exact ⟨(k, z), fun _ => h1⟩
      · exact ⟨hl0, fun h => absurd h hi⟩
    obtain ⟨f, hf⟩ := Classical.axiomOfChoice each
    have eg : ∀ i, i < len → ((List.range len).map f).getD i hl0 = f i := fun i hi => by simp [hi]
    refine ⟨(List.range len).map f, some ⟨b, off, sp⟩, cap, by simp, by simpa using hl, ⟨hm, fun h => by cases h⟩, ?_⟩
    by_cases h0 : len = 0
    · subst h0; left; rfl
    · right
      have hc0 := hf 0 (by omega)
      obtain ⟨_, _, hc1⟩ := World.cells?_some hc0
      have h00 := hc1 0 (by omega)
      simp only [Nat.zero_mul, List.getElem?_cons_zero] at h00
      obtain rfl : sp = none := by
        have := World.cell?_spot h00
        simpa [Addr.add] using this
      have hadd : ∀ o i, (⟨b, o, none⟩ : Addr).add i = ⟨b, o + i, none⟩ := fun o i => by unfold Addr.add; split <;> simp_all
      refine ⟨b, off, rfl, ?_, ?_⟩
      · rw [hadd, hadd] at h00
        exact cell_lt h00
      · intro i hi
        rw [List.length_map, List.length_range] at hi
        rw [eg i hi]
        have hc := hf i hi
        obtain ⟨_, _, hc⟩ := World.cells?_some hc
        rw [hadd] at hc
        have e0 := hc 0 (by omega)
        have e1 := hc 1 (by omega)
        rw [hadd] at e0 e1
        exact ⟨by simpa using e0, by simpa using e1⟩
set_option maxRecDepth 100000 in
theorem rom_of {r : Reach} {b0 : Nat} {v : Value} {d : DataW H} {p : List MemPlace} (hv : Value.okWide Try.prog W r b0 25 v) (h : DataW.Trod enc Try.prog W 0 (fun _ => true) true 25 v d p) :
    ∃ (vf vh : Value) (m : List (List Int)) (hs : List Hl), v = .agg #[vf, vh] ∧ RdM W vf m ∧ RdH W vh hs := by
  obtain ⟨c0, c1, y0, y1, n, rfl, rfl, rfl, g0, g1⟩ := Go.Joins.open_agg2 Try.underlying25 (by kernel_rfl) (by kernel_rfl) hv h
  obtain ⟨m, hm⟩ := rdM_ofL g0
  obtain ⟨hs, hh⟩ := rdH_of g1
  exact ⟨c0, c1, m, hs, rfl, hm, hh⟩
end
end Go.Proofs.Ytjffjoednmlkiaa.Frame

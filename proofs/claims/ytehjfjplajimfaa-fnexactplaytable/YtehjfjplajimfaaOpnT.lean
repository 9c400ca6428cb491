/-
  Arguments opened: a slice of slots, a table. No condition; no call is walked here.
-/
import Derived.Test.YtehjfjplajimfaaOpn
import Derived.Test.YtehjfjplajimfaaTbl
import Derived.Deep.Slices
import Derived.Deep.Strs
namespace Go.Proofs.Ytehjfjplajimfaa.Frame
open Go.ChangeShapes Go.WideShapes Go.ChangeAt Go.RowKit
set_option linter.unusedVariables false
section
variable {H : Type} {enc : TypeId × Value → H} {W : World}
set_option maxRecDepth 100000 in
theorem sl_of {n : Nat} {cs : List Value} {y : DataW H × List MemPlace} (h : DataW.trod enc Try.prog W 0 (fun _ => true) true n 107 cs = some y) :
    ∃ (u : Bool) (k z : Int), cs = [.bool u, .int .i64 k, .int .i64 z] := by
  obtain ⟨y0, y1, y2, m, _, hl, g0, g1, g2⟩ := Go.Deep.trod_struct3 Try.underlying107 h
  have hl2 : cs.length = 3 := hl.trans (by kernel_rfl)
  obtain ⟨c0, c1, c2, rfl⟩ : ∃ c0 c1 c2, cs = [c0, c1, c2] := by
    match cs, hl2 with
    | [a, b, c], _ => exact ⟨a, b, c, rfl⟩
  have k1 : Try.prog.cellsOf 3 = 1 := by kernel_rfl
  have k2 : Try.prog.cellsOf 4 = 1 := by kernel_rfl
  simp only [k1, k2, List.drop_zero, List.drop_succ_cons, List.take_succ_cons, List.take_zero] at g0 g1 g2
  obtain ⟨u, e0, _⟩ := DataW.trod_bool Try.underlying4 g0
  obtain ⟨k, e1, _⟩ := DataW.trod_int Try.underlying3 g1
  obtain ⟨z, e2, _⟩ := DataW.trod_int Try.underlying3 g2
  obtain rfl : c0 = .bool u := by simpa using e0
  obtain rfl : c1 = .int .i64 k := by simpa using e1
  obtain rfl : c2 = .int .i64 z := by simpa using e2
  exact ⟨u, k, z, rfl⟩
set_option maxRecDepth 100000 in
theorem rdS_of {n : Nat} {v : Value} {y : DataW H × List MemPlace} (h : DataW.trod enc Try.prog W 0 (fun _ => true) true n 22 [v] = some y) : ∃ xs, RdS W v xs := by
  rcases Go.Deep.open_slice Try.underlying22 h with ⟨hcs, _⟩ | ⟨⟨b, off, sp⟩, len, cap, m, n2, D, Pl, hcs, _, hl, hm, hmm, _, hr⟩
  · simp only [List.cons.injEq, and_true] at hcs
    subst hcs
    exact ⟨[], rdS_nil W⟩
  · simp only [List.cons.injEq, and_true] at hcs
    subst hcs
    have k4 : Try.prog.cellsOf 107 = 3 := by kernel_rfl
    rw [k4] at hr
    have hmc : m = cap := by rw [hmm]; rfl
    have each : ∀ i, ∃ s : Sl, i < len → W.cells? 0 ((⟨b, off, sp⟩ : Addr).add (i * 3)) 3 = some [.bool s.1, .int .i64 s.2.1, .int .i64 s.2.2] := by
      intro i
      by_cases hi : i < len
      · obtain ⟨cs, h1, h2⟩ := hr i (by omega)
        obtain ⟨u, k, z, rfl⟩ := sl_of h2
        exact ⟨(u, k, z), fun _ => h1⟩
      · exact ⟨sl0, fun h => absurd h hi⟩
    obtain ⟨f, hf⟩ := Classical.axiomOfChoice each
    have eg : ∀ i, i < len → ((List.range len).map f).getD i sl0 = f i := fun i hi => by simp [hi]
    refine ⟨(List.range len).map f, some ⟨b, off, sp⟩, cap, by simp, by simpa using hl, ⟨hm, fun h => by cases h⟩, ?_⟩
    by_cases h0 : len = 0
    · subst h0; left; rfl
    · right
      have hc0 := hf 0 (by omega)
      obtain ⟨_, _, hc1⟩ := World.cells?_some hc0
      have h00 := hc1 0 (by omega)
      simp only [Nat.zero_mul, List.getElem?_cons_zero] at h00
      obtain rfl : sp = none := by
        have := World.cell?_spot h00
        simpa [Addr.add] using this
      have hadd : ∀ o i, (⟨b, o, none⟩ : Addr).add i = ⟨b, o + i, none⟩ := fun o i => by unfold Addr.add; split <;> simp_all
      refine ⟨b, off, rfl, ?_, ?_⟩
      · rw [hadd, hadd] at h00
        exact cell_lt h00
      · intro i hi
        rw [List.length_map, List.length_range] at hi
        rw [eg i hi]
        have hc := hf i hi
        obtain ⟨_, _, hc⟩ := World.cells?_some hc
        rw [hadd] at hc
        have e0 := hc 0 (by omega)
        have e1 := hc 1 (by omega)
        have e2 := hc 2 (by omega)
        rw [hadd] at e0 e1 e2
        exact ⟨by simpa using e0, by simpa using e1, by simpa using e2⟩
set_option maxRecDepth 100000 in
theorem tab_of {r : Reach} {b0 : Nat} {v : Value} {d : DataW H} {p : List MemPlace} (hv : Value.okWide Try.prog W r b0 24 v) (h : DataW.Trod enc Try.prog W 0 (fun _ => true) true 24 v d p) :
    ∃ (s m : Int) (vl vr : Value) (ls rs : List Sl), v = .agg #[.int .i64 s, vl, vr, .int .i64 m] ∧ RdS W vl ls ∧ RdS W vr rs := by
  obtain ⟨c0, c1, c2, c3, y0, y1, y2, y3, n, rfl, rfl, rfl, g0, g1, g2, g3⟩ := Go.Joins.open_agg4 Try.underlying24 (by kernel_rfl) (by kernel_rfl) hv h
  obtain ⟨s, e0, _⟩ := DataW.trod_int Try.underlying3 g0
  obtain ⟨ls, hl⟩ := rdS_of g1
  obtain ⟨rs, hr⟩ := rdS_of g2
  obtain ⟨m, e3, _⟩ := DataW.trod_int Try.underlying3 g3
  obtain rfl : c0 = .int .i64 s := by simpa using e0
  obtain rfl : c3 = .int .i64 m := by simpa using e3
  exact ⟨s, m, c1, c2, ls, rs, rfl, hl, hr⟩
end
end Go.Proofs.Ytehjfjplajimfaa.Frame

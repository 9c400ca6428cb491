/-
  Arguments opened: a slice of branches, a pool. No condition; no call is walked here.
-/
import Derived.Test.YthmijjcddjlebaaOpn
import Derived.Test.YthmijjcddjlebaaBrb
import Derived.Deep.Slices
namespace Go.Proofs.Ythmijjcddjlebaa.Frame
open Go.ChangeShapes Go.WideShapes Go.ChangeAt Go.RowKit
set_option linter.unusedVariables false
section
variable {H : Type} {enc : TypeId × Value → H} {W : World}
set_option maxRecDepth 100000 in
theorem br_of {n : Nat} {cs : List Value} {y : DataW H × List MemPlace} (h : DataW.trod enc Try.prog W 0 (fun _ => true) true n 147 cs = some y) :
    ∃ (vk : Value) (ks : List Int) (z : Bool), cs = [vk, .bool z] ∧ Rd W vk ks := by
  obtain ⟨y0, y1, m, _, hl, g0, g1⟩ := trod_struct2 Try.underlying147 h
  have hl2 : cs.length = 2 := hl.trans (by kernel_rfl)
  obtain ⟨c0, c1, rfl⟩ : ∃ c0 c1, cs = [c0, c1] := by
    match cs, hl2 with
    | [a, b], _ => exact ⟨a, b, rfl⟩
  have k1 : Try.prog.cellsOf 41 = 1 := by kernel_rfl
  have k2 : Try.prog.cellsOf 4 = 1 := by kernel_rfl
  simp only [k1, k2, List.drop_zero, List.drop_succ_cons, List.take_succ_cons, List.take_zero] at g0 g1
  obtain ⟨ks, hks⟩ := rd_of g0
  obtain ⟨z, e1, _⟩ := DataW.trod_bool Try.underlying4 g1
  obtain rfl : c1 = .bool z := by simpa using e1
  exact ⟨c0, ks, z, rfl, hks⟩
set_option maxRecDepth 100000 in
theorem rdB_of {n : Nat} {v : Value} {y : DataW H × List MemPlace} (h : DataW.trod enc Try.prog W 0 (fun _ => true) true n 48 [v] = some y) : ∃ xs, RdN W v xs := by
  rcases Go.Deep.open_slice Try.underlying48 h with ⟨hcs, _⟩ | ⟨⟨b, off, sp⟩, len, cap, m, n2, D, Pl, hcs, _, hl, hm, hmm, _, hr⟩
  · simp only [List.cons.injEq, and_true] at hcs
    subst hcs
    exact ⟨[], none, 0, rfl, Nat.le_refl _, ⟨Nat.zero_le _, fun _ => rfl⟩, .inl rfl⟩
  · simp only [List.cons.injEq, and_true] at hcs
    subst hcs
    have k4 : Try.prog.cellsOf 147 = 2 := by kernel_rfl
    rw [k4] at hr
    have hmc : m = cap := by rw [hmm]; rfl
    have each : ∀ i, ∃ s : Nd, i < len → ∃ u, Rd W u s.1 ∧ W.cells? 0 ((⟨b, off, sp⟩ : Addr).add (i * 2)) 2 = some [u, .bool s.2] := by
      intro i
      by_cases hi : i < len
      · obtain ⟨cs, h1, h2⟩ := hr i (by omega)
        obtain ⟨u, ks, z, rfl, hks⟩ := br_of h2
        exact ⟨(ks, z), fun _ => ⟨u, hks, h1⟩⟩
      · exact ⟨nd0, fun h => absurd h hi⟩
    obtain ⟨f, hf⟩ := Classical.axiomOfChoice each
    have eg : ∀ i, i < len → ((List.range len).map f).getD i nd0 = f i := fun i hi => by simp [hi]
    refine ⟨(List.range len).map f, some ⟨b, off, sp⟩, cap, by simp, by simpa using hl, ⟨hm, fun h => by cases h⟩, ?_⟩
    by_cases h0 : len = 0
    · subst h0; left; rfl
    · right
      obtain ⟨u0, _, hc0⟩ := hf 0 (by omega)
      obtain ⟨_, _, hc1⟩ := World.cells?_some hc0
      have h00 := hc1 0 (by omega)
      simp only [Nat.zero_mul, List.getElem?_cons_zero] at h00
      obtain rfl : sp = none := by
        have := World.cell?_spot h00
        simpa [Addr.add] using this
      have hadd : ∀ o i, (⟨b, o, none⟩ : Addr).add i = ⟨b, o + i, none⟩ := fun o i => by unfold Addr.add; split <;> simp_all
      refine ⟨b, off, rfl, ?_, ?_⟩
      · rw [hadd, hadd] at h00
        unfold World.cell? at h00
        cases hh : W.heap[b]? with
        | none => simp [hh] at h00
        | some o => exact (Array.getElem?_eq_some_iff.1 hh).1
      · intro i hi
        rw [List.length_map, List.length_range] at hi
        rw [eg i hi]
        obtain ⟨u, hks, hc⟩ := hf i hi
        obtain ⟨_, _, hc⟩ := World.cells?_some hc
        rw [hadd] at hc
        have e0 := hc 0 (by omega)
        have e1 := hc 1 (by omega)
        rw [hadd] at e0 e1
        exact ⟨u, hks, by simpa using e0, by simpa using e1⟩
set_option maxRecDepth 100000 in
theorem pol_of {r : Reach} {b0 : Nat} {v : Value} {d : DataW H} {p : List MemPlace} (hv : Value.okWide Try.prog W r b0 50 v) (h : DataW.Trod enc Try.prog W 0 (fun _ => true) true 50 v d p) :
    ∃ vp vr xs rs, v = .agg #[vp, vr] ∧ RdP W vp vr xs rs := by
  obtain ⟨c0, c1, y0, y1, n, rfl, rfl, rfl, g0, g1⟩ := Go.Joins.open_agg2 Try.underlying50 (by kernel_rfl) (by kernel_rfl) hv h
  obtain ⟨xs, hx⟩ := rdB_of g0
  obtain ⟨rs, hr⟩ := rd_of g1
  exact ⟨c0, c1, xs, rs, rfl, hx, hr⟩
end
end Go.Proofs.Ythmijjcddjlebaa.Frame

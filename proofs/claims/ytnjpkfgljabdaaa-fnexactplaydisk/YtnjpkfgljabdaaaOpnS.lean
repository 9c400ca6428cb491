/-
  Arguments opened: a slice of steps. No condition; no call is walked here.
-/
import Derived.Test.YtnjpkfgljabdaaaOpn
import Derived.Test.YtnjpkfgljabdaaaStx
import Derived.Deep.Slices
namespace Go.Proofs.Ytnjpkfgljabdaaa.Frame
open Go.ChangeShapes Go.WideShapes Go.ChangeAt Go.RowKit
set_option linter.unusedVariables false
section
variable {H : Type} {enc : TypeId × Value → H} {W : World}
theorem stp_of {n : Nat} {cs : List Value} {y : DataW H × List MemPlace} (h : DataW.trod enc Try.prog W 0 (fun _ => true) true n 41 cs = some y) :
    ∃ (K A : Int) (T : ByteArray) (vk : Value) (ks : List Int), cs = [.int .i64 K, .int .i64 A, .string T, vk] ∧ T.size ≤ maxLen ∧ Rd W vk ks := by
  obtain ⟨y0, y1, y2, y3, m, _, hl, g0, g1, g2, g3⟩ := Go.Joins.trod_struct4 Try.underlying41 h
  have hl4 : cs.length = 4 := hl.trans (by kernel_rfl)
  obtain ⟨c0, c1, c2, c3, rfl⟩ : ∃ c0 c1 c2 c3, cs = [c0, c1, c2, c3] := by
    match cs, hl4 with
    | [a, b, c, d], _ => exact ⟨a, b, c, d, rfl⟩
  have k1 : Try.prog.cellsOf 3 = 1 := by kernel_rfl
  have k2 : Try.prog.cellsOf 9 = 1 := by kernel_rfl
  have k3 : Try.prog.cellsOf 39 = 1 := by kernel_rfl
  simp only [k1, k2, k3, List.drop_zero, List.drop_succ_cons, List.take_succ_cons, List.take_zero] at g0 g1 g2 g3
  obtain ⟨K, e0, rfl, _⟩ := DataW.trod_int Try.underlying3 g0
  obtain ⟨A, e1, rfl, _⟩ := DataW.trod_int Try.underlying3 g1
  obtain ⟨T, e2, rfl, hT⟩ := DataW.trod_string Try.underlying9 g2
  obtain ⟨ks, hks⟩ := rd_of g3
  obtain rfl : c0 = .int .i64 K := by simpa using e0
  obtain rfl : c1 = .int .i64 A := by simpa using e1
  obtain rfl : c2 = .string T := by simpa using e2
  exact ⟨K, A, T, c3, ks, rfl, hT, hks⟩
theorem rdX_of {n : Nat} {v : Value} {y : DataW H × List MemPlace} (h : DataW.trod enc Try.prog W 0 (fun _ => true) true n 49 [v] = some y) : ∃ xs, RdX W v xs := by
  rcases Go.Deep.open_slice Try.underlying49 h with ⟨hcs, _⟩ | ⟨⟨b, off, sp⟩, len, cap, m, n2, D, Pl, hcs, _, hl, hm, hmm, _, hr⟩
  · simp only [List.cons.injEq, and_true] at hcs
    subst hcs
    exact ⟨[], none, 0, rfl, Nat.le_refl _, ⟨Nat.zero_le _, fun _ => rfl⟩, .inl rfl⟩
  · simp only [List.cons.injEq, and_true] at hcs
    subst hcs
    have k4 : Try.prog.cellsOf 41 = 4 := by kernel_rfl
    rw [k4] at hr
    have hmc : m = cap := by rw [hmm]; rfl
    have each : ∀ i, ∃ s : Stp, i < len → ∃ u, s.2.2.1.size ≤ maxLen ∧ Rd W u s.2.2.2 ∧ W.cells? 0 ((⟨b, off, sp⟩ : Addr).add (i * 4)) 4 = some [.int .i64 s.1, .int .i64 s.2.1, .string s.2.2.1, u] := by
      intro i
      by_cases hi : i < len
      · obtain ⟨cs, h1, h2⟩ := hr i (by omega)
        obtain ⟨K, A, T, u, ks, rfl, hT, hks⟩ := stp_of h2
        exact ⟨(K, A, T, ks), fun _ => ⟨u, hT, hks, h1⟩⟩
      · exact ⟨stp0, fun h => absurd h hi⟩
    obtain ⟨f, hf⟩ := Classical.axiomOfChoice each
    have eg : ∀ i, i < len → ((List.range len).map f).getD i stp0 = f i := fun i hi => by simp [hi]
    refine ⟨(List.range len).map f, some ⟨b, off, sp⟩, cap, by simp, by simpa using hl, ⟨hm, fun h => by cases h⟩, ?_⟩
    by_cases h0 : len = 0
    · subst h0; left; rfl
    · right
      obtain ⟨u0, _, _, hc0⟩ := hf 0 (by omega)
      obtain ⟨_, _, hc1⟩ := World.cells?_some hc0
      have h00 := hc1 0 (by omega)
      simp only [Nat.zero_mul, List.getElem?_cons_zero] at h00
      obtain rfl : sp = none := by
        have := World.cell?_spot h00
        simpa [Addr.add] using this
      have hadd : ∀ o i, (⟨b, o, none⟩ : Addr).add i = ⟨b, o + i, none⟩ := fun o i => by unfold Addr.add; split <;> simp_all
      refine ⟨b, off, rfl, ?_, ?_⟩
      · rw [hadd, hadd] at h00
        unfold World.cell? at h00
        cases hh : W.heap[b]? with
        | none => simp [hh] at h00
        | some o => exact (Array.getElem?_eq_some_iff.1 hh).1
      · intro i hi
        rw [List.length_map, List.length_range] at hi
        rw [eg i hi]
        obtain ⟨u, hT, hks, hc⟩ := hf i hi
        obtain ⟨_, _, hc⟩ := World.cells?_some hc
        rw [hadd] at hc
        have e0 := hc 0 (by omega)
        have e1 := hc 1 (by omega)
        have e2 := hc 2 (by omega)
        have e3 := hc 3 (by omega)
        rw [hadd] at e0 e1 e2 e3
        exact ⟨u, hT, hks, by simpa using e0, by simpa using e1, by simpa using e2, by simpa using e3⟩
end
end Go.Proofs.Ytnjpkfgljabdaaa.Frame

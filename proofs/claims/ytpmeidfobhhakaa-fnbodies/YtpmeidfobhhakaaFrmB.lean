/-
  Bytes that came in: what reading them tells. No condition.
-/
import Derived.Test.YtpmeidfobhhakaaFrm
import Derived.Test.YtpmeidfobhhakaaCurB
namespace Go.Proofs.Ytpmeidfobhhakaa
open Go.RowKit

def IsRow (k : IntKind) (w : World) (a : Option Addr) (len cap : Nat) (zs : List Int) : Prop :=
  (a = none ∧ len = 0 ∧ cap = 0 ∧ zs = []) ∨
  ∃ x, a = some x ∧ len ≤ cap ∧ cap ≤ maxLen ∧ zs.length = cap ∧ (∀ i, i < zs.length → w.cell? (x.add i) = some (.int k (zs.getD i 0))) ∧ ∀ n ∈ zs, (Lit.int k n).wf = true
theorem IsRow.rdb {w : World} {a : Option Addr} {len cap : Nat} {zs : List Int} (h : IsRow .u8 w a len cap zs) (hb : len ≤ 140737488351232) : RdB w (.slice a len cap) := by
  rcases h with ⟨rfl, rfl, rfl, rfl⟩ | ⟨⟨b, off, sp⟩, rfl, hl, hm, hz, hc, hwf⟩
  · exact ⟨none, 0, [], rfl, by simp, fun i => by simp, .inl rfl⟩
  · have bd : ∀ n ∈ zs, 0 ≤ n ∧ n ≤ 255 := by
      intro n hn
      have := hwf n hn
      simp [Lit.wf, IntKind.min, IntKind.max, IntKind.signed, IntKind.bits] at this
      omega
    have el : ((zs.take len).map Int.toNat).length = len := by rw [List.length_map, List.length_take]; omega
    refine ⟨_, cap, (zs.take len).map Int.toNat, by rw [el], by rw [el]; omega, ?_, ?_⟩
    · intro i
      simp only [List.getD_eq_getElem?_getD, List.getElem?_map, List.getElem?_take]
      split
      · cases hx : zs[i]? with
        | none => simp
        | some n => have := bd n (List.mem_of_getElem? hx); simp; omega
      · simp
    · by_cases h0 : len = 0
      · left
        subst h0
        simp
      · right
        have h00 := hc 0 (by omega)
        obtain rfl : sp = none := by simpa [Addr.add] using World.cell?_spot h00
        refine ⟨b, off, rfl, ?_, ?_⟩
        · have : w.cell? ⟨b, off, none⟩ = some (.int .u8 (zs.getD 0 0)) := by simpa [Addr.add] using h00
          unfold World.cell? at this
          cases hh : w.heap[b]? with
          | none => simp [hh] at this
          | some o => exact (Array.getElem?_eq_some_iff.1 hh).1
        · intro i hi
          rw [el] at hi
          have := hc i (by omega)
          have hadd : (⟨b, off, none⟩ : Addr).add i = ⟨b, off + i, none⟩ := by unfold Addr.add; split <;> simp_all
          rw [hadd] at this
          rw [this]
          have hiz : i < zs.length := by omega
          have hn := bd zs[i] (List.getElem_mem hiz)
          simp only [List.getD_eq_getElem?_getD, List.getElem?_map, List.getElem?_take, if_pos hi, List.getElem?_eq_getElem hiz, Option.map_some, Option.getD_some]
          congr 2
          omega
end Go.Proofs.Ytpmeidfobhhakaa

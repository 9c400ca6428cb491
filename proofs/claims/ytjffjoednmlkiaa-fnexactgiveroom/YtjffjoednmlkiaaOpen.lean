/-
  Arguments that came in: lists of integers, rows of them: what reading them tells. No condition.
-/
import Derived.Test.YtjffjoednmlkiaaMat
import Derived.ProofKit
import Derived.OpenShut
import Derived.Deep.Matrix
namespace Go.Proofs.Ytjffjoednmlkiaa.Frame
open Go.ChangeShapes Go.WideShapes Go.ChangeAt Go.RowKit

theorem rd_row {W : World} {a : Option Addr} {len cap : Nat} {zs : List Int} (hz : True → zs.length = cap) (hl : len ≤ cap) (hm : cap ≤ maxLen) (hn : a = none → cap = 0)
    (hc : ∀ a', a = some a' → ∀ i, i < cap → W.cell? (a'.add i) = some (.int .i64 (zs.getD i 0))) : Rd W (.slice a len cap) (zs.take len) := by
  have hz := hz trivial
  have el : (zs.take len).length = len := by rw [List.length_take]; omega
  refine ⟨a, cap, by rw [el], by rw [el]; exact hl, ⟨hm, hn⟩, ?_⟩
  by_cases h0 : len = 0
  · left; subst h0; simp
  · right
    cases a with
    | none => have := hn rfl; omega
    | some x =>
      obtain ⟨b, off, sp⟩ := x
      have hc := hc _ rfl
      have h00 := hc 0 (by omega)
      obtain rfl : sp = none := by simpa [Addr.add] using World.cell?_spot h00
      refine ⟨b, off, rfl, ?_, ?_⟩
      · have : W.cell? ⟨b, off, none⟩ = some (.int .i64 (zs.getD 0 0)) := by simpa [Addr.add] using h00
        unfold World.cell? at this
        cases hh : W.heap[b]? with
        | none => simp [hh] at this
        | some o => exact (Array.getElem?_eq_some_iff.1 hh).1
      · intro i hi
        rw [el] at hi
        have := hc i (by omega)
        have hadd : (⟨b, off, none⟩ : Addr).add i = ⟨b, off + i, none⟩ := by unfold Addr.add; split <;> simp_all
        rw [hadd] at this
        rw [this, List.getD_eq_getElem?_getD, List.getD_eq_getElem?_getD, List.getElem?_take, if_pos hi]

/-- A slice of integers that came in reads as some list; a slice of slices as some rows. -/
theorem rd_of {H : Type} {enc : TypeId × Value → H} {W : World} {fu : Nat} {held : Bool} {cs : List Value} {x : DataW H × List MemPlace} {a : Option Addr} {len cap : Nat}
    (h : DataW.trod enc Try.prog W 0 (fun _ => true) held fu 36 cs = some x) (hc : cs = [Value.slice a len cap]) : ∃ xs, Rd W (.slice a len cap) xs := by
  rcases open_ints Try.underlying36 Try.underlying3 (by kernel_rfl) h with ⟨hcs, _⟩ | ⟨⟨b, off, sp⟩, l, c, zs, hcs, _, hl, hm, hz, _, hcell, _⟩
  · rw [hc] at hcs
    simp at hcs
    obtain ⟨rfl, rfl, rfl⟩ := hcs
    exact ⟨[], none, 0, rfl, Nat.le_refl _, ⟨Nat.zero_le _, fun _ => rfl⟩, .inl rfl⟩
  · rw [hc] at hcs
    simp at hcs
    obtain ⟨rfl, rfl, rfl⟩ := hcs
    simp only [if_true] at hz
    exact ⟨_, rd_row (fun _ => hz) hl hm (fun h => by cases h) (fun a' e i hi => by cases e; exact hcell i (by omega))⟩
theorem rdM_of {H : Type} {enc : TypeId × Value → H} {W : World} {fu : Nat} {held : Bool} {cs : List Value} {x : DataW H × List MemPlace} {a : Option Addr} {len cap : Nat}
    (h : DataW.trod enc Try.prog W 0 (fun _ => true) held fu 22 cs = some x) (hc : cs = [Value.slice a len cap]) : ∃ m, RdM W (.slice a len cap) m := by
  rcases Go.Deep.open_int_rows Try.underlying22 Try.underlying36 Try.underlying3 (by kernel_rfl) (by kernel_rfl) h with ⟨hcs, _⟩ | ⟨⟨b, off, sp⟩, l, c, A, L, C, Z, hcs, _, hl, hm, _, hr⟩
  · rw [hc] at hcs
    simp at hcs
    obtain ⟨rfl, rfl, rfl⟩ := hcs
    exact ⟨[], none, 0, rfl, Nat.le_refl _, ⟨Nat.zero_le _, fun _ => rfl⟩, .inl rfl⟩
  · rw [hc] at hcs
    simp at hcs
    obtain ⟨rfl, rfl, rfl⟩ := hcs
    refine ⟨(List.range len).map fun r => (Z r).take (L r), some ⟨b, off, sp⟩, cap, by simp, by simpa using hl, ⟨hm, fun h => by cases h⟩, ?_⟩
    by_cases h0 : len = 0
    · subst h0; left; rfl
    · right
      have h00 := (hr 0 (by omega)).1
      obtain rfl : sp = none := by simpa [Addr.add] using World.cell?_spot h00
      refine ⟨b, off, rfl, ?_, ?_⟩
      · have : W.cell? ⟨b, off, none⟩ = some (.slice (A 0) (L 0) (C 0)) := by simpa [Addr.add] using h00
        unfold World.cell? at this
        cases hh : W.heap[b]? with
        | none => simp [hh] at this
        | some o => exact (Array.getElem?_eq_some_iff.1 hh).1
      · intro i hi
        rw [List.length_map, List.length_range] at hi
        obtain ⟨e1, e2, e3, e4, _, e6, e7⟩ := hr i (by omega)
        have hadd : (⟨b, off, none⟩ : Addr).add i = ⟨b, off + i, none⟩ := by unfold Addr.add; split <;> simp_all
        rw [hadd] at e1
        refine ⟨_, e1, ?_⟩
        have eg : ((List.range len).map fun r => (Z r).take (L r)).getD i [] = (Z i).take (L i) := by simp [hi]
        rw [eg]
        exact rd_row (fun _ => e4) e2 e3 e6 (fun a' h j hj => (e7 a' h).2 j hj)
end Go.Proofs.Ytjffjoednmlkiaa.Frame

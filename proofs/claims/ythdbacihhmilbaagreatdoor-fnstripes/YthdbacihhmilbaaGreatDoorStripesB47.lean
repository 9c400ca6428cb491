/-
  The law FnStripes at every two texts that can be read: the call returns true, and nothing that was there is written. The program's table of rests must hold its seven numbers.
-/
import Derived.Test.YthdbacihhmilbaaGreatDoorStripesB46
import Derived.Test.YthdbacihhmilbaaGreatDoorStripesB1
import Derived.Test.YthdbacihhmilbaaGreatDoorStripesB0
set_option maxRecDepth 100000
set_option maxHeartbeats 800000
namespace Go.Proofs.YthdbacihhmilbaaGreatDoor
open Go.RowKit
theorem IsRow.rdbStripes {w : World} {a : Option Addr} {len cap : Nat} {zs : List Int} (h : Frame.IsRow .u8 w a len cap zs) (hb : len ≤ 140737488351232) : RdB w (.slice a len cap) := by
 rcases h with ⟨rfl, rfl, rfl, rfl⟩ | ⟨⟨b, off, sp⟩, rfl, hl, hm, hz, hc, hwf⟩
 ·exact ⟨none, 0, [], rfl, by simp, fun i => by simp, .inl rfl⟩
 ·have bd : ∀ n ∈ zs, 0 ≤ n ∧ n ≤ 255 := by
    intro n hn
    have := hwf n hn
    simp [Lit.wf, IntKind.min, IntKind.max, IntKind.signed, IntKind.bits] at this
    omega
  have el : ((zs.take len).map Int.toNat).length = len := by rw [List.length_map, List.length_take]; omega
  refine ⟨_, cap, (zs.take len).map Int.toNat, by rw [el], by rw [el]; omega, ?_, ?_⟩
  ·intro i
   simp only [qg, List.getElem?_map, List.getElem?_take]
   split
   ·cases hx : zs[i]? with
    | none => simp
    | some n => have := bd n (List.mem_of_getElem? hx); simp; omega
   ·simp
  ·by_cases h0 : len = 0
   ·left
    subst h0
    simp
   ·right
    have h00 := hc 0 (by omega)
    obtain rfl : sp = none := by simpa [Addr.add] using World.cell?_spot h00
    refine ⟨b, off, rfl, ?_, ?_⟩
    ·have : w.cell? ⟨b, off, none⟩ = some (.int .u8 (zs.getD 0 0)) := by simpa [Addr.add] using h00
     unfold World.cell? at this
     cases hh : w.heap[b]? with
     | none => simp [hh] at this
     | some o => exact (Array.getElem?_eq_some_iff.1 hh).1
    ·intro i hi
     rw [el] at hi
     have := hc i (by omega)
     have hadd : (⟨b, off, none⟩ : Addr).add i = ⟨b, off + i, none⟩ := by unfold Addr.add; split <;> simp_all
     rw [hadd] at this
     rw [this]
     have hiz : i < zs.length := by omega
     have hn := bd zs[i] (List.getElem_mem hiz)
     simp only [qg, List.getElem?_map, List.getElem?_take, if_pos hi, List.getElem?_eq_getElem hiz, Option.map_some, Option.getD_some]
     congr 2
     omega
theorem fnStripes_walk (a : Option Addr) (len cap : Nat) (zs : List Int) (a' : Option Addr) (len' cap' : Nat) (zs' : List Int) (w : World) (hT : Gf.Tab w) (h0 : Frame.IsRow .u8 w a len cap zs) (h1 : Frame.IsRow .u8 w a' len' cap' zs') (b0 : len ≤ 140737488351232) (b1 : len' ≤ 140737488351232) :
    Calls Tryz.prog 3 #[.slice a len cap, .slice a' len' cap'] w fun e w' => e = .returned (.bool true) ∧ Below w.heap.size w w' := by
 by_cases h : (len : Int) + (len' : Int) ≤ 1048576
 ·refine fnStripes_core _ _ w hT (IsRow.rdbStripes h0 b0) (IsRow.rdbStripes h1 b1) ?_
  intro _ n _ _ n' _ e e'
  simp only [Value.slice.injEq] at e e'
  omega
 ·have h' : (1048576 : Int) < (len : Int) + (len' : Int) := by omega
  clear h hT h0 h1
  go_enter Tryz.func3, Tryz.ntmps3
  go_wp2
  go_ret
  exact ⟨rfl, Below.refl _ _⟩
end Go.Proofs.YthdbacihhmilbaaGreatDoor

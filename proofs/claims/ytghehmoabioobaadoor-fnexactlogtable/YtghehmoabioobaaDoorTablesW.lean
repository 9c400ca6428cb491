/-
  The laws that hold the program's two tables against its model's: each call returns true, and nothing that was there is written. The program's table of rests must hold its seven numbers.
-/
import Derived.Test.YtghehmoabioobaaDoorTables
namespace Go.Proofs.YtghehmoabioobaaDoor
open Go.RowKit

theorem grown_below {w w' : World} {v : Value} {B base : Nat} {xs : List Int} (h : Own w base v xs) (hg : w.grownBy w' v.ownBlock) (hB : B ≤ base) (hw : B ≤ w.heap.size) : Below B w w' :=
  (Below.refl _ _).grown hg hw (fun k hk => Nat.le_trans hB (h.lt k hk).1)
theorem Own.other {w w' : World} {v u : Value} {base base' : Nat} {xs ys : List Int} (h : Own w base v xs) (hv : Own w base' u ys) (hg : w.grownBy w' v.ownBlock) (hlt : ∀ k, u.ownBlock = some k → k < base) : Own w' base' u ys := by
  refine World.ownsRow.kept hv hg ?_
  cases hu : u.ownBlock with
  | none => exact .inl rfl
  | some k =>
    right
    intro e
    have h1 := (h.lt k e.symm).1
    have h2 := hlt k hu
    omega

set_option maxRecDepth 100000 in
set_option maxHeartbeats 800000 in
theorem fnExactExpTable_walk (w : World) (hT : Gf.Tab w) :
    Calls Tryd.prog 8 #[] w fun e w' => e = .returned (.bool true) ∧ Below w.heap.size w w' := by
  have hlen : (Gf.expL).length ≤ 1048576 := by rw [Gf.expL_length]; omega
  have HT := hide hT
  clear hT
  go_enter Tryd.func8, Tryd.ntmps8
  go_wp2_with fail
  refine (Gf.sExpTable_calls _).mono ?_
  rintro e w1 ⟨v0, rfl, o0, b0⟩
  have T1 := hide (HT.out.below b0)
  have O0 := hide o0
  have B0 := hide b0
  clear o0 b0
  go_wp2_with fail
  refine (Gf.expTable_calls _ T1.out).mono ?_
  rintro e w2 ⟨v1, rfl, o1, b1⟩
  have T2 := hide (T1.out.below b1)
  have O0' := hide (O0.out.below b1)
  have O1 := hide o1
  have B1 := hide (B0.out.trans (b1.mono B0.out.size))
  have HB : Hid (∀ k, v0.ownBlock = some k → k < w1.heap.size) := fun k hk => (O0.out.lt k hk).2
  have S1 := hide (And.intro B0.out.size b1.size)
  clear o1 b1 O0 B0 T1
  go_wp2_with fail
  refine (eqIntS_same v1 v0 Gf.expL _ O1.out.rd O0'.out.rd).mono ?_
  rintro e w3 ⟨rfl, b2⟩
  have T3 := hide (T2.out.below b2)
  have O0 := hide (O0'.out.below b2)
  have O1' := hide (O1.out.below b2)
  have B2 := hide (B1.out.trans (b2.mono B1.out.size))
  have S2 := hide (And.intro S1.out.1 (Nat.le_trans S1.out.2 b2.size))
  clear b2 O0' O1 B1 T2 S1
  go_wp2_with fail
  refine (markIntS_calls v1 Gf.expL 1 w1.heap.size _ O1'.out (by omega) (by omega) hlen).mono ?_
  rintro e w4 ⟨rfl, o1, g1⟩
  have b3 : Below w1.heap.size w3 w4 := grown_below O1'.out g1 (Nat.le_refl _) S2.out.2
  have T4 : Hid (Gf.Tab w4) := Gf.tab_setCell T3.out (Nat.lt_of_lt_of_le (Gf.tab_pos HT.out) S2.out.1) b3
  have O0' := hide (O1'.out.other O0.out g1 HB.out)
  have O1 := hide o1
  have B3 := hide (B2.out.trans (b3.mono S2.out.1))
  clear b3 g1 o1 O1' O0 B2 T3
  go_wp2_with fail
  refine (heldIntS_calls v1 Gf.expL.length 1 _ O1.out.rd (by omega) (by omega) hlen).mono ?_
  rintro e w5 ⟨rfl, rfl⟩
  go_wp2_with fail
  refine (Gf.expTable_calls _ T4.out).mono ?_
  rintro e w6 ⟨v2, rfl, o2, b4⟩
  have O0 := hide (O0'.out.below b4)
  have O1' := hide (O1.out.below b4)
  have O2 := hide o2
  have B4 := hide (B3.out.trans (b4.mono B3.out.size))
  clear b4 o2 O0' O1 B3 T4
  go_wp2_with fail
  refine (eqIntS_same v2 v0 Gf.expL _ O2.out.rd O0.out.rd).mono ?_
  rintro e w7 ⟨rfl, b5⟩
  have O1 := hide (O1'.out.below b5)
  have B5 := hide (B4.out.trans (b5.mono B4.out.size))
  clear b5 O1' O0 O2 B4
  go_wp2_with fail
  refine (heldIntS_calls v1 Gf.expL.length 1 _ O1.out.rd (by omega) (by omega) hlen).mono ?_
  rintro e w8 ⟨rfl, rfl⟩
  go_wp2
  go_ret
  exact ⟨rfl, B5.out⟩
set_option maxRecDepth 100000 in
set_option maxHeartbeats 800000 in
theorem fnExactLogTable_walk (w : World) (hT : Gf.Tab w) :
    Calls Tryd.prog 9 #[] w fun e w' => e = .returned (.bool true) ∧ Below w.heap.size w w' := by
  have hlen : (Gf.logL).length ≤ 1048576 := by rw [Gf.logL_length]; omega
  have HT := hide hT
  clear hT
  go_enter Tryd.func9, Tryd.ntmps9
  go_wp2_with fail
  refine (Gf.sLogTable_calls _).mono ?_
  rintro e w1 ⟨v0, rfl, o0, b0⟩
  have T1 := hide (HT.out.below b0)
  have O0 := hide o0
  have B0 := hide b0
  clear o0 b0
  go_wp2_with fail
  refine (Gf.logTable_calls _ T1.out).mono ?_
  rintro e w2 ⟨v1, rfl, o1, b1⟩
  have T2 := hide (T1.out.below b1)
  have O0' := hide (O0.out.below b1)
  have O1 := hide o1
  have B1 := hide (B0.out.trans (b1.mono B0.out.size))
  have HB : Hid (∀ k, v0.ownBlock = some k → k < w1.heap.size) := fun k hk => (O0.out.lt k hk).2
  have S1 := hide (And.intro B0.out.size b1.size)
  clear o1 b1 O0 B0 T1
  go_wp2_with fail
  refine (eqIntS_same v1 v0 Gf.logL _ O1.out.rd O0'.out.rd).mono ?_
  rintro e w3 ⟨rfl, b2⟩
  have T3 := hide (T2.out.below b2)
  have O0 := hide (O0'.out.below b2)
  have O1' := hide (O1.out.below b2)
  have B2 := hide (B1.out.trans (b2.mono B1.out.size))
  have S2 := hide (And.intro S1.out.1 (Nat.le_trans S1.out.2 b2.size))
  clear b2 O0' O1 B1 T2 S1
  go_wp2_with fail
  refine (markIntS_calls v1 Gf.logL 1 w1.heap.size _ O1'.out (by omega) (by omega) hlen).mono ?_
  rintro e w4 ⟨rfl, o1, g1⟩
  have b3 : Below w1.heap.size w3 w4 := grown_below O1'.out g1 (Nat.le_refl _) S2.out.2
  have T4 : Hid (Gf.Tab w4) := Gf.tab_setCell T3.out (Nat.lt_of_lt_of_le (Gf.tab_pos HT.out) S2.out.1) b3
  have O0' := hide (O1'.out.other O0.out g1 HB.out)
  have O1 := hide o1
  have B3 := hide (B2.out.trans (b3.mono S2.out.1))
  clear b3 g1 o1 O1' O0 B2 T3
  go_wp2_with fail
  refine (heldIntS_calls v1 Gf.logL.length 1 _ O1.out.rd (by omega) (by omega) hlen).mono ?_
  rintro e w5 ⟨rfl, rfl⟩
  go_wp2_with fail
  refine (Gf.logTable_calls _ T4.out).mono ?_
  rintro e w6 ⟨v2, rfl, o2, b4⟩
  have O0 := hide (O0'.out.below b4)
  have O1' := hide (O1.out.below b4)
  have O2 := hide o2
  have B4 := hide (B3.out.trans (b4.mono B3.out.size))
  clear b4 o2 O0' O1 B3 T4
  go_wp2_with fail
  refine (eqIntS_same v2 v0 Gf.logL _ O2.out.rd O0.out.rd).mono ?_
  rintro e w7 ⟨rfl, b5⟩
  have O1 := hide (O1'.out.below b5)
  have B5 := hide (B4.out.trans (b5.mono B4.out.size))
  clear b5 O1' O0 O2 B4
  go_wp2_with fail
  refine (heldIntS_calls v1 Gf.logL.length 1 _ O1.out.rd (by omega) (by omega) hlen).mono ?_
  rintro e w8 ⟨rfl, rfl⟩
  go_wp2
  go_ret
  exact ⟨rfl, B5.out⟩
end Go.Proofs.YtghehmoabioobaaDoor

/-
  What a play answers, as a thing that a law holds: a table and a row of Booleans. Each contract says what it asks.
-/
import Derived.Test.YtehjfjplajimfaaTpp
namespace Go.Proofs.Ytehjfjplajimfaa
open Go.RowKit
set_option linter.unusedVariables false

theorem TabV.keptY {w w' : World} {lo hi base n : Nat} {l r v : Value} {L R : List Sl} {xs : List Value} (d : TabV w lo hi l r L R) (o : w.ownsRow base 4 1 v n xs) (g : w.grownBy w' v.ownBlock) : TabV w' lo hi l r L R :=
  ⟨World.ownsRow.kept d.left g (own_unlike d.left o (by decide)), World.ownsRow.kept d.right g (own_unlike d.right o (by decide)), d.tl, d.tr, d.ap⟩
/-- A table and a row of Booleans. -/
def TPly (l r v : Value) (X Y : List Sl) (B : List Bool) : Tg := fun lo hi w => TabV w lo hi l r X Y ∧ OwnZ w lo v B ∧ ∀ k, v.ownBlock = some k → k < hi
theorem TPly.st (l r v : Value) (X Y : List Sl) (B : List Bool) : (TPly l r v X Y B).st := fun lo hi a b w w' h hc hd => ⟨h.1.chg hc hd, ownsRow_chg h.2.1 h.2.2 hc hd, h.2.2⟩
set_option maxRecDepth 100000 in
set_option maxHeartbeats 800000 in
theorem markTableB_calls (s m : Int) (l r v : Value) (ls rs : List Sl) (B : List Bool) (lo hi : Nat) (w : World) (d : TabV w lo hi l r ls rs) (o : OwnZ w lo v B) (hh : hi ≤ w.heap.size) (hzl : ls.length ≤ 1048576) (hzr : rs.length ≤ 1048576) :
    Calls Try.prog 19 #[.agg #[.int .i64 s, l, r, .int .i64 m], .int .i64 1] w fun e w' => e = .returned (.int .i64 (enT ls rs)) ∧ TabV w' lo hi l r (mkS 1 ls.length) (mkS (1 + 3 * (ls.length : Int)) rs.length) ∧ OwnZ w' lo v B ∧ Chg lo hi w w' := by
  obtain ⟨al, cl, ar, cr, rfl, rfl⟩ := d.sl
  have b0 := below_box w (.cells #[.int .i64 s, .slice al ls.length cl, .slice ar rs.length cr, .int .i64 m] 28)
  have D0 := hide (d.below b0)
  have O0 := hide (ownsRow_below o b0)
  have C0 : Hid (Chg lo hi w (w.alloc (.cells #[.int .i64 s, .slice al ls.length cl, .slice ar rs.length cr, .int .i64 m] 28))) := Chg.ofBelow b0
  have X0 := hide (BoxAt.new w #[.int .i64 s, .slice al ls.length cl, .slice ar rs.length cr, .int .i64 m] 28)
  clear b0 d o
  go_enter Try.func19, Try.ntmps19
  go_wp2_with fail
  refine (markSlotS_calls _ 1 ls lo _ D0.out.left hzl (by omega) (by omega)).mono ?_
  rintro e w1 ⟨rfl, o1, g1⟩
  have D1 := hide (D0.out.setL o1 g1)
  have O1 := hide (World.ownsRow.kept O0.out g1 (own_unlike O0.out D0.out.left (by decide)))
  have X1 := X0.out.chg (D0.out.chgL g1) (.inr hh)
  have C1 := hide (C0.out.trans (D0.out.chgL g1))
  obtain ⟨c0, c1, c2, c3⟩ := X1.c4
  clear o1 g1 D0 C0 X0 X1 O0
  go_wp2_with fail
  refine (markSlotS_calls _ (1 + 3 * (ls.length : Int)) rs lo _ D1.out.right hzr (by omega) (by omega)).mono ?_
  rintro e w2 ⟨rfl, o2, g2⟩
  have D2 := hide (D1.out.setR o2 g2)
  have O2 := hide (World.ownsRow.kept O1.out g2 (own_unlike O1.out D1.out.right (by decide)))
  have C2 := hide (C1.out.trans (D1.out.chgR g2))
  clear o2 g2 D1 C1 O1
  go_wp2
  go_ret
  exact ⟨rfl, D2.out, O2.out, C2.out⟩
end Go.Proofs.Ytehjfjplajimfaa

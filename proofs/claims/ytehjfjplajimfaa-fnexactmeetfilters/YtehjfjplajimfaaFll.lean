/-
  Things that a call holds, put together: a variable that takes a filter, and the filter. No program.
-/
import Derived.Test.YtehjfjplajimfaaFla
import Derived.Deep.DeepCutAuto
namespace Go.Proofs.Ytehjfjplajimfaa
open Go.RowKit
set_option linter.unusedVariables false

def FAnd (t1 t2 : Tg) : Tg := fun lo hi w => t1 lo hi w ∧ t2 lo hi w
theorem FAnd.st {t1 t2 : Tg} (h1 : t1.st) (h2 : t2.st) : (FAnd t1 t2).st := fun lo hi a b w w' h hc hd => ⟨h1 _ _ _ _ _ _ h.1 hc hd, h2 _ _ _ _ _ _ h.2 hc hd⟩
def Tg.wf (t : Tg) : Prop := ∀ lo hi lo' hi' w, t lo hi w → lo' ≤ lo → hi ≤ hi' → t lo' hi' w
theorem FAnd.wf {t1 t2 : Tg} (h1 : t1.wf) (h2 : t2.wf) : (FAnd t1 t2).wf := fun lo hi lo' hi' w h a b => ⟨h1 _ _ _ _ _ h.1 a b, h2 _ _ _ _ _ h.2 a b⟩
theorem TBox.wf (g : Nat) (cs : Array Value) (T : TypeId) : (TBox g cs T).wf := fun lo hi lo' hi' w ⟨h1, h2, h3⟩ a b => ⟨Nat.le_trans a h1, Nat.lt_of_lt_of_le h2 b, h3⟩
theorem TBols.wf (v : Value) (xs : List Bool) : (TBols v xs).wf := fun lo hi lo' hi' w h a b => ⟨ownsRow_mono h.1 a, fun k hk => Nat.lt_of_lt_of_le (h.2 k hk) b⟩
theorem Hand.joinF {W w : World} {t1 t2 : Tg} {L : List Tg} (A : Hand W w (t1 :: t2 :: L)) (h1 : t1.wf) (h2 : t2.wf) : Hand W w (FAnd t1 t2 :: L) := by
  obtain ⟨hb, lo, hi, ⟨s1, x1⟩, a, b, lo2, hi2, ⟨s2, x2⟩, c, d, r⟩ := A
  exact ⟨hb, lo2, hi, ⟨FAnd.st s1 s2, h1 _ _ _ _ _ x1 (by omega) (Nat.le_refl _), h2 _ _ _ _ _ x2 (Nat.le_refl _) (by omega)⟩, by omega, b, r⟩
theorem Hand.turnF {W w : World} {t m : Tg} {L : List Tg} (A : Hand W w (t :: L)) (hs : m.st) (h : ∀ lo hi w', t lo hi w' → m lo hi w') : Hand W w (m :: L) := by
  obtain ⟨hb, lo, hi, ⟨s1, x1⟩, a, b, r⟩ := A
  exact ⟨hb, lo, hi, ⟨hs, h _ _ _ x1⟩, a, b, r⟩
/-- A variable that takes a filter, and the filter. -/
def TVaF (g : Nat) (v : Value) (xs : List Bool) : Tg := FAnd (TBox g #[v] 46) (TBols v xs)
theorem TVaF.st (g : Nat) (v : Value) (xs : List Bool) : (TVaF g v xs).st := FAnd.st (TBox.st _ _ _) (TBols.st _ _)
theorem Hand.joinF4 {W w : World} {t0 t1 t2 t3 m : Tg} {L : List Tg} (A : Hand W w (t0 :: t1 :: t2 :: t3 :: L)) (h0 : t0.wf) (h1 : t1.wf) (h2 : t2.wf) (h3 : t3.wf) (hs : m.st)
    (h : ∀ lo hi w', t0 lo hi w' → t1 lo hi w' → t2 lo hi w' → t3 lo hi w' → m lo hi w') : Hand W w (m :: L) :=
  (((A.joinF h0 h1).joinF (FAnd.wf h0 h1) h2).joinF (FAnd.wf (FAnd.wf h0 h1) h2) h3).turnF hs fun lo hi w' x => h lo hi w' x.1.1.1 x.1.1.2 x.1.2 x.2
theorem Hand.varF {W w : World} {L : List Tg} {g : Nat} {v : Value} {xs : List Bool} (A : Hand W w L) (i : Nat) (hi : L[i]? = some (TVaF g v xs)) : BoxAt w g #[v] 46 ∧ ∃ lo hi, TBols v xs lo hi w := by
  obtain ⟨lo, hi', ⟨_, _, hx⟩, d⟩ := A.get i hi
  exact ⟨hx, lo, hi', d⟩
end Go.Proofs.Ytehjfjplajimfaa

/-
  Things that a call holds, put together: what lies side by side may be held as one. No program.
-/
import Derived.Test.YtnjpkfgljabdaaaDsv
import Derived.Test.YtnjpkfgljabdaaaDxs
import Derived.Deep.DeepCutAuto
namespace Go.Proofs.Ytnjpkfgljabdaaa
open Go.RowKit
set_option linter.unusedVariables false

def TAnd (t1 t2 : Tg) : Tg := fun lo hi w => t1 lo hi w ∧ t2 lo hi w
theorem TAnd.st {t1 t2 : Tg} (h1 : t1.st) (h2 : t2.st) : (TAnd t1 t2).st := fun lo hi a b w w' h hc hd => ⟨h1 _ _ _ _ _ _ h.1 hc hd, h2 _ _ _ _ _ _ h.2 hc hd⟩
def Tg.wd (t : Tg) : Prop := ∀ lo hi lo' hi' w, t lo hi w → lo' ≤ lo → hi ≤ hi' → t lo' hi' w
theorem TAnd.wd {t1 t2 : Tg} (h1 : t1.wd) (h2 : t2.wd) : (TAnd t1 t2).wd := fun lo hi lo' hi' w h a b => ⟨h1 _ _ _ _ _ h.1 a b, h2 _ _ _ _ _ h.2 a b⟩
theorem TBox.wd (g : Nat) (cs : Array Value) (T : TypeId) : (TBox g cs T).wd := fun lo hi lo' hi' w ⟨h1, h2, h3⟩ a b => ⟨Nat.le_trans a h1, Nat.lt_of_lt_of_le h2 b, h3⟩
theorem TDsk.wd (p h b : Value) (P H : List ByteArray) (B : List Bool) : (TDsk p h b P H B).wd := fun lo hi lo' hi' w d a b => DskV.wider d a b
theorem TInts.wd (v : Value) (xs : List Int) : (TInts v xs).wd := fun lo hi lo' hi' w h a b => ⟨ownsRow_mono h.1 a, fun k hk => Nat.lt_of_lt_of_le (h.2 k hk) b⟩
theorem Hand.join {W w : World} {t1 t2 : Tg} {L : List Tg} (A : Hand W w (t1 :: t2 :: L)) (h1 : t1.wd) (h2 : t2.wd) : Hand W w (TAnd t1 t2 :: L) := by
  obtain ⟨hb, lo, hi, ⟨s1, x1⟩, a, b, lo2, hi2, ⟨s2, x2⟩, c, d, r⟩ := A
  exact ⟨hb, lo2, hi, ⟨TAnd.st s1 s2, h1 _ _ _ _ _ x1 (by omega) (Nat.le_refl _), h2 _ _ _ _ _ x2 (Nat.le_refl _) (by omega)⟩, by omega, b, r⟩
theorem Hand.turn {W w : World} {t m : Tg} {L : List Tg} (A : Hand W w (t :: L)) (hs : m.st) (h : ∀ lo hi w', t lo hi w' → m lo hi w') : Hand W w (m :: L) := by
  obtain ⟨hb, lo, hi, ⟨s1, x1⟩, a, b, r⟩ := A
  exact ⟨hb, lo, hi, ⟨hs, h _ _ _ x1⟩, a, b, r⟩
/-- A variable that takes a disk, and the disk. -/
def TVar (g : Nat) (p h b : Value) (P H : List ByteArray) (B : List Bool) : Tg := TAnd (TBox g #[p, h, b] 25) (TDsk p h b P H B)
theorem TVar.st (g : Nat) (p h b : Value) (P H : List ByteArray) (B : List Bool) : (TVar g p h b P H B).st := TAnd.st (TBox.st _ _ _) (TDsk.st _ _ _ _ _ _)
theorem Hand.join4 {W w : World} {t0 t1 t2 t3 m : Tg} {L : List Tg} (A : Hand W w (t0 :: t1 :: t2 :: t3 :: L)) (h0 : t0.wd) (h1 : t1.wd) (h2 : t2.wd) (h3 : t3.wd) (hs : m.st)
    (h : ∀ lo hi w', t0 lo hi w' → t1 lo hi w' → t2 lo hi w' → t3 lo hi w' → m lo hi w') : Hand W w (m :: L) :=
  (((A.join h0 h1).join (TAnd.wd h0 h1) h2).join (TAnd.wd (TAnd.wd h0 h1) h2) h3).turn hs fun lo hi w' x => h lo hi w' x.1.1.1 x.1.1.2 x.1.2 x.2
theorem Hand.var {W w : World} {L : List Tg} {g : Nat} {p h b : Value} {P H : List ByteArray} {B : List Bool} (A : Hand W w L) (i : Nat) (hi : L[i]? = some (TVar g p h b P H B)) : BoxAt w g #[p, h, b] 25 ∧ ∃ lo hi, DskV w lo hi p h b P H B := by
  obtain ⟨lo, hi', ⟨_, _, hx⟩, d⟩ := A.get i hi
  exact ⟨hx, lo, hi', d⟩
end Go.Proofs.Ytnjpkfgljabdaaa

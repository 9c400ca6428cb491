/-
  Numbers played on a table: the mathematics. No program, no condition.
-/
import Derived.Test.YtehjfjplajimfaaTrm
namespace Go.Proofs.Ytehjfjplajimfaa
open Go.RowKit
set_option linter.unusedVariables false
set_option linter.unusedSimpArgs false

/-- One number played. -/
def PlTo (s n i : Int) (L R : List Sl) (m : Int) (X Y : List Sl) (mX : Int) (ok : Bool) : Prop :=
  (0 ≤ n ∧ ((ok = true ∧ ∃ c a, PutTo s L R n i X Y c a ∧ mX = m + a) ∨ (ok = false ∧ NoRoom s L R n i ∧ X = L ∧ Y = R ∧ mX = m))) ∨
  (n < 0 ∧ ((ok = true ∧ DropTo s L R (-1 - n) X Y ∧ mX = m - 1) ∨ (ok = false ∧ NotIn s L R (-1 - n) ∧ X = L ∧ Y = R ∧ mX = m)))
theorem pl_one (s n i : Int) (L R : List Sl) (m : Int) : ∃ X Y mX ok, PlTo s n i L R m X Y mX ok := by
  rcases Classical.em (0 ≤ n) with h | h
  · rcases put_or s L R n i with ⟨X, Y, c, a, hp⟩ | hp
    · exact ⟨X, Y, _, true, .inl ⟨h, .inl ⟨rfl, c, a, hp, rfl⟩⟩⟩
    · exact ⟨L, R, m, false, .inl ⟨h, .inr ⟨rfl, hp, rfl, rfl, rfl⟩⟩⟩
  · rcases drop_or s L R (-1 - n) with ⟨X, Y, hp⟩ | hp
    · exact ⟨X, Y, _, true, .inr ⟨by omega, .inl ⟨rfl, hp, rfl⟩⟩⟩
    · exact ⟨L, R, m, false, .inr ⟨by omega, .inr ⟨rfl, hp, rfl, rfl, rfl⟩⟩⟩
theorem PlTo.good {s n i : Int} {L R : List Sl} {m : Int} {X Y : List Sl} {mX : Int} {ok : Bool} (h : PlTo s n i L R m X Y mX ok) (o : okT s L R m) (hn : n ≤ 9999) (hi : kOk i) : okT s X Y mX := by
  rcases h with ⟨h0, ⟨_, c, a, h, rfl⟩ | ⟨_, _, rfl, rfl, rfl⟩⟩ | ⟨h0, ⟨_, h, rfl⟩ | ⟨_, _, rfl, rfl, rfl⟩⟩
  · exact h.ok o ⟨h0, hn⟩ hi
  · exact o
  · exact h.ok o
  · exact o
theorem PlTo.same {s n i : Int} {L R : List Sl} {m : Int} {X Y : List Sl} {mX : Int} (h : PlTo s n i L R m X Y mX false) : X = L ∧ Y = R ∧ mX = m := by
  rcases h with ⟨_, ⟨e, _⟩ | ⟨_, _, h⟩⟩ | ⟨_, ⟨e, _⟩ | ⟨_, _, h⟩⟩
  · simp at e
  · exact h
  · simp at e
  · exact h
/-- All numbers played, one after the other. -/
structure Ply (s : Int) (ns : List Int) (X Y : Nat → List Sl) (M : Nat → Int) (B : Nat → Bool) : Prop where
  x0 : X 0 = new11
  y0 : Y 0 = new11
  m0 : M 0 = 0
  step : ∀ i, PlTo s (ns.getD i 0) (i : Int) (X i) (Y i) (M i) (X (i + 1)) (Y (i + 1)) (M (i + 1)) (B i)
theorem ply_ex (s : Int) (ns : List Int) : ∃ X Y M B, Ply s ns X Y M B := by
  have each : ∀ p : Nat × List Sl × List Sl × Int, ∃ q : (List Sl × List Sl × Int) × Bool, PlTo s (ns.getD p.1 0) (p.1 : Int) p.2.1 p.2.2.1 p.2.2.2 q.1.1 q.1.2.1 q.1.2.2 q.2 := by
    intro p
    obtain ⟨X, Y, mX, ok, h⟩ := pl_one s (ns.getD p.1 0) (p.1 : Int) p.2.1 p.2.2.1 p.2.2.2
    exact ⟨((X, Y, mX), ok), h⟩
  obtain ⟨f, hf⟩ := Classical.axiomOfChoice each
  obtain ⟨S, h0, hS⟩ : ∃ S : Nat → List Sl × List Sl × Int, S 0 = (new11, new11, 0) ∧ ∀ i, S (i + 1) = (f (i, S i)).1 :=
    ⟨fun n => Nat.rec (new11, new11, 0) (fun i st => (f (i, st)).1) n, rfl, fun i => rfl⟩
  refine ⟨fun i => (S i).1, fun i => (S i).2.1, fun i => (S i).2.2, fun i => (f (i, S i)).2, by simp only [h0], by simp only [h0], by simp only [h0], fun i => ?_⟩
  have := hf (i, S i)
  simp only [hS i]
  exact this
def stOk (n : Int) : Prop := -10000 ≤ n ∧ n ≤ 9999
theorem Ply.good {s : Int} {ns : List Int} {X Y : Nat → List Sl} {M : Nat → Int} {B : Nat → Bool} (h : Ply s ns X Y M B) (hs : sdOk s) (hn : ns.length ≤ 80) : ∀ i, i ≤ ns.length → (∀ j, j < i → stOk (ns.getD j 0)) → okT s (X i) (Y i) (M i)
  | 0, _, _ => by rw [h.x0, h.y0, h.m0]; exact okT_new s hs
  | i + 1, hi, hall => (h.step i).good (h.good hs hn i (by omega) (fun j hj => hall j (by omega))) (hall i (by omega)).2 ⟨by omega, by omega⟩
/-- What was done so far. -/
def didB (B : Nat → Bool) (k : Nat) : List Bool := (List.range k).map B
theorem didB_len (B : Nat → Bool) (k : Nat) : (didB B k).length = k := by simp [didB]
theorem didB_succ (B : Nat → Bool) (k : Nat) : didB B (k + 1) = didB B k ++ [B k] := by simp [didB, List.range_succ]
/-- The row that is made ahead, filled so far. -/
def rowB (B : Nat → Bool) (n k : Nat) : List Bool := didB B k ++ List.replicate (n - k) false
theorem rowB_len (B : Nat → Bool) (n k : Nat) (h : k ≤ n) : (rowB B n k).length = n := by simp [rowB, didB]; omega
theorem rowB_zero (B : Nat → Bool) (n : Nat) : rowB B n 0 = List.replicate n false := by simp [rowB, didB]
theorem rowB_end (B : Nat → Bool) (n : Nat) : rowB B n n = didB B n := by simp [rowB]
theorem rowB_set (B : Nat → Bool) (n k : Nat) (h : k < n) : (rowB B n k).set k (B k) = rowB B n (k + 1) := by
  unfold rowB
  rw [List.set_append_right _ _ (by rw [didB_len]; exact Nat.le_refl _), didB_len, Nat.sub_self]
  obtain ⟨m, hm⟩ : ∃ m, n - k = m + 1 := ⟨n - k - 1, by omega⟩
  have hm2 : n - (k + 1) = m := by omega
  rw [hm, hm2, List.replicate_succ, List.set_cons_zero, didB_succ, List.append_assoc]
  rfl
theorem rowB_skip (B : Nat → Bool) (n k : Nat) (h : k < n) (hb : B k = false) : rowB B n (k + 1) = rowB B n k := by
  rw [← rowB_set B n k h, hb]
  have hk : k < (rowB B n k).length := by rw [rowB_len B n k (by omega)]; exact h
  have e : (rowB B n k)[k] = false := by
    simp only [rowB]
    rw [List.getElem_append_right (by rw [didB_len]; exact Nat.le_refl _)]
    simp
  conv => lhs; rw [← e]
  exact List.set_getElem_self hk
/-- What a play answers. -/
def PlAt (s : Int) (ns : List Int) (X Y : List Sl) (sX mX : Int) (bs : List Bool) (ok : Bool) : Prop :=
  ((sdOk s ∧ ns.length ≤ 80 ∧ ∀ i, i < ns.length → stOk (ns.getD i 0)) ∧ ∃ XX YY MM BB, Ply s ns XX YY MM BB ∧ X = XX ns.length ∧ Y = YY ns.length ∧ mX = MM ns.length ∧ bs = didB BB ns.length ∧ sX = s ∧ ok = true) ∨
  (¬ (sdOk s ∧ ns.length ≤ 80 ∧ ∀ i, i < ns.length → stOk (ns.getD i 0)) ∧ X = [] ∧ Y = [] ∧ sX = 0 ∧ mX = 0 ∧ bs = [] ∧ ok = false)
theorem plAt_ex (s : Int) (ns : List Int) : ∃ X Y sX mX bs ok, PlAt s ns X Y sX mX bs ok := by
  rcases Classical.em (sdOk s ∧ ns.length ≤ 80 ∧ ∀ i, i < ns.length → stOk (ns.getD i 0)) with h | h
  · obtain ⟨XX, YY, MM, BB, hp⟩ := ply_ex s ns
    exact ⟨_, _, _, _, _, _, .inl ⟨h, XX, YY, MM, BB, hp, rfl, rfl, rfl, rfl, rfl, rfl⟩⟩
  · exact ⟨_, _, _, _, _, _, .inr ⟨h, rfl, rfl, rfl, rfl, rfl, rfl⟩⟩
theorem PlAt.len {s : Int} {ns : List Int} {X Y : List Sl} {sX mX : Int} {bs : List Bool} {ok : Bool} (h : PlAt s ns X Y sX mX bs ok) : X.length ≤ 1048576 ∧ Y.length ≤ 1048576 ∧ bs.length ≤ 1048576 := by
  rcases h with ⟨h, XX, YY, MM, BB, hp, rfl, rfl, rfl, rfl, rfl, rfl⟩ | ⟨_, rfl, rfl, rfl, rfl, rfl, rfl⟩
  · have o := hp.good h.1 h.2.1 ns.length (Nat.le_refl _) h.2.2
    have h1 := o.2.1.1
    have h2 := o.2.2.1.1
    rw [didB_len]
    have := h.2.1
    omega
  · simp
end Go.Proofs.Ytehjfjplajimfaa

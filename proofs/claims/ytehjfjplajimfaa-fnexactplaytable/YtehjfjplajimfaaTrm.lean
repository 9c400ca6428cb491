/-
  Slots put one after the other by rising keys: the mathematics of a rehash. No program, no condition.
-/
import Derived.Test.YtehjfjplajimfaaTdr
namespace Go.Proofs.Ytehjfjplajimfaa
open Go.RowKit
set_option linter.unusedVariables false

/-- Slots put one after the other. -/
def Rh (s : Int) : List Sl → List Sl → List Sl → Int → Option (List Sl × List Sl × Int) → Prop
  | [], L, R, m, res => res = some (L, R, m)
  | x :: ds, L, R, m, res => (NoRoom s L R x.2.1 x.2.2 ∧ res = none) ∨ ∃ X Y n a, PutTo s L R x.2.1 x.2.2 X Y n a ∧ Rh s ds X Y (m + a) res
theorem rh_ex (s : Int) : ∀ (ds L R : List Sl) (m : Int), ∃ res, Rh s ds L R m res
  | [], L, R, m => ⟨_, rfl⟩
  | x :: ds, L, R, m => by
    rcases put_or s L R x.2.1 x.2.2 with ⟨X, Y, n, a, h⟩ | h
    · obtain ⟨res, hr⟩ := rh_ex s ds X Y (m + a)
      exact ⟨res, .inr ⟨X, Y, n, a, h, hr⟩⟩
    · exact ⟨none, .inl ⟨h, rfl⟩⟩
theorem sorted_ex (xs : List Sl) : ∃ ds : List Sl, ds.Perm xs ∧ Rising ds := by
  refine ⟨xs.mergeSort (fun a b => decide (a.2.1 ≤ b.2.1)), List.mergeSort_perm _ _, ?_⟩
  have h := List.pairwise_mergeSort (le := fun a b : Sl => decide (a.2.1 ≤ b.2.1)) (by intro a b c h1 h2; simp only [decide_eq_true_eq] at *; omega) (by intro a b; simp only [Bool.or_eq_true, decide_eq_true_eq]; omega) xs
  exact h.imp (fun h => by simp only [decide_eq_true_eq] at h; omega)
theorem key_inj {s m : Int} {ls rs : List Sl} (o : okT s ls rs m) {x y : Sl} (hx : x ∈ us ls ++ us rs) (hy : y ∈ us ls ++ us rs) (h : x.2.1 = y.2.1) : x = y := by
  obtain ⟨_, _, h1⟩ := find_val o hx
  obtain ⟨_, _, h2⟩ := find_val o hy
  have ux : ∀ z ∈ us ls ++ us rs, z.1 = true := fun z hz => by
    rcases List.mem_append.1 hz with hz | hz
    · exact (mem_us.1 hz).2
    · exact (mem_us.1 hz).2
  have hv : x.2.2 = y.2.2 := by
    rw [h] at h1
    rcases h1 with ⟨a, b⟩ | ⟨a, _, b⟩
    · rcases h2 with ⟨_, d⟩ | ⟨c, _⟩
      · rw [← b, d]
      · exact absurd a c
    · rcases h2 with ⟨c, _⟩ | ⟨_, _, d⟩
      · exact absurd c a
      · rw [← b, d]
  exact Prod.ext ((ux x hx).trans (ux y hy).symm) (Prod.ext h hv)
theorem sorted_one {s m : Int} {ls rs ds es : List Sl} (o : okT s ls rs m) (p1 : ds.Perm (us ls ++ us rs)) (r1 : Rising ds) (p2 : es.Perm (us ls ++ us rs)) (r2 : Rising es) : ds = es := by
  have e := (rising_kyS p1 r1 o.2.2.2.2).trans (rising_kyS p2 r2 o.2.2.2.2).symm
  have hl : ds.length = es.length := by rw [p1.length_eq, p2.length_eq]
  refine List.ext_getElem hl fun i h1 h2 => ?_
  have e2 : (ky ds)[i]? = (ky es)[i]? := by rw [e]
  unfold ky at e2
  rw [List.getElem?_map, List.getElem?_map, List.getElem?_eq_getElem h1, List.getElem?_eq_getElem h2] at e2
  simp only [Option.map_some, Option.some.injEq] at e2
  exact key_inj o (p1.mem_iff.1 (List.getElem_mem h1)) (p2.mem_iff.1 (List.getElem_mem h2)) e2
abbrev new11 : List Sl := List.replicate 11 sl0
/-- What comes of a rehash of a table, good or not. -/
def RhAt (s m : Int) (ls rs : List Sl) (sd : Int) (X Y : List Sl) (sX mX : Int) (ok : Bool) : Prop :=
  (okT s ls rs m ∧ sdOk sd ∧ ∃ ds res, ds.Perm (us ls ++ us rs) ∧ Rising ds ∧ Rh sd ds new11 new11 0 res ∧ ((res = some (X, Y, mX) ∧ sX = sd ∧ ok = true) ∨ (res = none ∧ X = [] ∧ Y = [] ∧ sX = 0 ∧ mX = 0 ∧ ok = false))) ∨
  (¬ (okT s ls rs m ∧ sdOk sd) ∧ X = [] ∧ Y = [] ∧ sX = 0 ∧ mX = 0 ∧ ok = false)
theorem rhAt_ex (s m : Int) (ls rs : List Sl) (sd : Int) : ∃ X Y sX mX ok, RhAt s m ls rs sd X Y sX mX ok := by
  rcases Classical.em (okT s ls rs m ∧ sdOk sd) with h | h
  · obtain ⟨ds, p, r⟩ := sorted_ex (us ls ++ us rs)
    obtain ⟨res, hr⟩ := rh_ex sd ds new11 new11 0
    cases res with
    | none => exact ⟨_, _, _, _, _, .inl ⟨h.1, h.2, ds, none, p, r, hr, .inr ⟨rfl, rfl, rfl, rfl, rfl, rfl⟩⟩⟩
    | some x =>
      obtain ⟨X, Y, mX⟩ := x
      exact ⟨X, Y, sd, mX, true, .inl ⟨h.1, h.2, ds, _, p, r, hr, .inl ⟨rfl, rfl, rfl⟩⟩⟩
  · exact ⟨_, _, _, _, _, .inr ⟨h, rfl, rfl, rfl, rfl, rfl⟩⟩
theorem rh_len (s : Int) : ∀ (ds L R : List Sl) (m : Int) (X Y : List Sl) (mX : Int), okT s L R m → (∀ x ∈ ds, kOk x.2.1 ∧ kOk x.2.2) → Rh s ds L R m (some (X, Y, mX)) → okT s X Y mX
  | [], L, R, m, X, Y, mX, o, _, h => by
    simp only [Rh, Option.some.injEq, Prod.mk.injEq] at h
    obtain ⟨rfl, rfl, rfl⟩ := h
    exact o
  | x :: ds, L, R, m, X, Y, mX, o, hk, h => by
    rcases h with ⟨_, h⟩ | ⟨X1, Y1, n, a, h1, h2⟩
    · simp at h
    · exact rh_len s ds X1 Y1 (m + a) X Y mX (h1.ok o (hk x (by simp)).1 (hk x (by simp)).2) (fun y hy => hk y (by simp [hy])) h2
theorem drop_slot {ds : List Sl} {i : Nat} {x : Sl} (hi : i < ds.length) (hx : ds.getD i sl0 = x) : ds.drop i = x :: ds.drop (i + 1) := by
  rw [List.getD_eq_getElem?_getD, List.getElem?_eq_getElem hi, Option.getD_some] at hx
  rw [List.drop_eq_getElem_cons hi, hx]
theorem slot_ok {s m : Int} {ls rs ds : List Sl} {i : Nat} {u : Bool} {k z : Int} (o : okT s ls rs m) (hp : ds.Perm (us ls ++ us rs)) (hi : i < ds.length) (hx : ds.getD i sl0 = (u, k, z)) : kOk k ∧ kOk z ∧ (u, k, z) ∈ us ls ++ us rs := by
  rw [List.getD_eq_getElem?_getD, List.getElem?_eq_getElem hi, Option.getD_some] at hx
  have hm : (u, k, z) ∈ us ls ++ us rs := hp.mem_iff.1 (by rw [← hx]; exact List.getElem_mem hi)
  obtain ⟨h1, h2, _⟩ := find_val o hm
  exact ⟨h1, h2, hm⟩
end Go.Proofs.Ytehjfjplajimfaa

/-
  Rooms taken and given back by numbers, one after the other: the mathematics, and the program's playRoom. Each contract says what it asks.
-/
import Derived.Test.YtjffjoednmlkiaaPlayRoomsB26
namespace Go.Proofs.Ytjffjoednmlkiaa
open Go.RowKit Go.Maps Go.MapKept Go.ChangeMaps
set_option linter.unusedVariables false
set_option linter.unusedSimpArgs false

theorem new_rows : ∀ o, o < newM.length → rowP o (newM.getD o []) := by
  intro o ho i hi
  have ho' : o < 6 := ho
  have : o = 0 ∨ o = 1 ∨ o = 2 ∨ o = 3 ∨ o = 4 ∨ o = 5 := by omega
  rcases this with rfl | rfl | rfl | rfl | rfl | rfl
  · exact absurd hi (Nat.not_lt_zero i)
  · exact absurd hi (Nat.not_lt_zero i)
  · exact absurd hi (Nat.not_lt_zero i)
  · exact absurd hi (Nat.not_lt_zero i)
  · exact absurd hi (Nat.not_lt_zero i)
  · have hi' : i < 1 := hi
    obtain rfl : i = 0 := by omega
    exact ⟨by decide, .inl rfl, fun h => absurd rfl h⟩
theorem new_ok : RoomsOk newM [] := by
  refine ⟨rfl, new_rows, ?_, by decide⟩
  intro i hi
  simp at hi
/-- One number played. -/
def RpTo (m : List (List Int)) (hs : List Hl) (n : Int) (X : List (List Int)) (Y : List Hl) (v : Int) : Prop :=
  (0 < n ∧ ∃ X' Y' a ok, TakeP m hs n X' Y' a ok ∧ ((ok = true ∧ X = X' ∧ Y = Y' ∧ v = a) ∨ (ok = false ∧ X = m ∧ Y = hs ∧ v = -1))) ∨
  (n ≤ 0 ∧ ∃ X' Y' ok, GiveP m hs (-n) X' Y' ok ∧ ((ok = true ∧ X = X' ∧ Y = Y' ∧ v = 0) ∨ (ok = false ∧ X = m ∧ Y = hs ∧ v = -1)))
theorem rp_one (m : List (List Int)) (hs : List Hl) (n : Int) : ∃ X Y v, RpTo m hs n X Y v := by
  by_cases h : 0 < n
  · obtain ⟨X, Y, a, ok, ht⟩ := takeP_ex m hs n
    cases ok with
    | true => exact ⟨X, Y, a, .inl ⟨h, X, Y, a, true, ht, .inl ⟨rfl, rfl, rfl, rfl⟩⟩⟩
    | false => exact ⟨m, hs, -1, .inl ⟨h, X, Y, a, false, ht, .inr ⟨rfl, rfl, rfl, rfl⟩⟩⟩
  · obtain ⟨X, Y, ok, ht⟩ := giveP_ex m hs (-n)
    cases ok with
    | true => exact ⟨X, Y, 0, .inr ⟨by omega, X, Y, true, ht, .inl ⟨rfl, rfl, rfl, rfl⟩⟩⟩
    | false => exact ⟨m, hs, -1, .inr ⟨by omega, X, Y, false, ht, .inr ⟨rfl, rfl, rfl, rfl⟩⟩⟩
theorem TakeP.good {m : List (List Int)} {hs : List Hl} {s : Int} {X : List (List Int)} {Y : List Hl} {a : Int} (h : TakeP m hs s X Y a true) : RoomsOk X Y := by
  rcases h with ⟨_, _, _, _, e⟩ | ⟨_, _, _, _, e⟩ | ⟨o, a', r, ⟨h0, _, h1, h2, _, h4⟩, rfl, rfl, _, _⟩
  · simp at e
  · simp at e
  · exact h0.take h1 h2 h4
theorem GiveP.good {m : List (List Int)} {hs : List Hl} {s : Int} {X : List (List Int)} {Y : List Hl} (h : GiveP m hs s X Y true) : RoomsOk X Y := by
  rcases h with ⟨_, _, _, e⟩ | ⟨_, _, _, e⟩ | ⟨an, o, ⟨h0, e, hin⟩, rfl, rfl, _⟩
  · simp at e
  · simp at e
  · exact h0.give (by rw [← e]; exact hin)
theorem RpTo.good {m : List (List Int)} {hs : List Hl} {n : Int} {X : List (List Int)} {Y : List Hl} {v : Int} (h : RpTo m hs n X Y v) (o : RoomsOk m hs) : RoomsOk X Y := by
  rcases h with ⟨_, X', Y', a, ok, ht, ⟨rfl, rfl, rfl, _⟩ | ⟨_, rfl, rfl, _⟩⟩ | ⟨_, X', Y', ok, ht, ⟨rfl, rfl, rfl, _⟩ | ⟨_, rfl, rfl, _⟩⟩
  · exact ht.good
  · exact o
  · exact ht.good
  · exact o
/-- All numbers played, one after the other. -/
structure Rpl (ns : List Int) (M : Nat → List (List Int)) (H : Nat → List Hl) (V : Nat → Int) : Prop where
  m0 : M 0 = newM
  h0 : H 0 = []
  step : ∀ i, RpTo (M i) (H i) (ns.getD i 0) (M (i + 1)) (H (i + 1)) (V i)
theorem rpl_ex (ns : List Int) : ∃ M H V, Rpl ns M H V := by
  have each : ∀ p : Nat × List (List Int) × List Hl, ∃ q : (List (List Int) × List Hl) × Int, RpTo p.2.1 p.2.2 (ns.getD p.1 0) q.1.1 q.1.2 q.2 := by
    intro p
    obtain ⟨X, Y, v, h⟩ := rp_one p.2.1 p.2.2 (ns.getD p.1 0)
    exact ⟨((X, Y), v), h⟩
  obtain ⟨f, hf⟩ := Classical.axiomOfChoice each
  obtain ⟨S, h0, hS⟩ : ∃ S : Nat → List (List Int) × List Hl, S 0 = (newM, []) ∧ ∀ i, S (i + 1) = (f (i, S i)).1 :=
    ⟨fun n => Nat.rec (newM, []) (fun i st => (f (i, st)).1) n, rfl, fun i => rfl⟩
  refine ⟨fun i => (S i).1, fun i => (S i).2, fun i => (f (i, S i)).2, by simp only [h0], by simp only [h0], fun i => ?_⟩
  have := hf (i, S i)
  simp only [hS i]
  exact this
theorem Rpl.good {ns : List Int} {M : Nat → List (List Int)} {H : Nat → List Hl} {V : Nat → Int} (h : Rpl ns M H V) : ∀ i, RoomsOk (M i) (H i)
  | 0 => by rw [h.m0, h.h0]; exact new_ok
  | i + 1 => (h.step i).good (h.good i)
/-- What was told so far. -/
def tldV (V : Nat → Int) (k : Nat) : List Int := (List.range k).map V
theorem tldV_len (V : Nat → Int) (k : Nat) : (tldV V k).length = k := by simp [tldV]
theorem tldV_succ (V : Nat → Int) (k : Nat) : tldV V (k + 1) = tldV V k ++ [V k] := by simp [tldV, List.range_succ]
/-- The row that is made ahead, filled so far. -/
def rowV (V : Nat → Int) (n k : Nat) : List Int := tldV V k ++ List.replicate (n - k) 0
theorem rowV_len (V : Nat → Int) (n k : Nat) (h : k ≤ n) : (rowV V n k).length = n := by simp [rowV, tldV]; omega
theorem rowV_zero (V : Nat → Int) (n : Nat) : rowV V n 0 = List.replicate n 0 := by simp [rowV, tldV]
theorem rowV_end (V : Nat → Int) (n : Nat) : rowV V n n = tldV V n := by simp [rowV]
theorem rowV_set (V : Nat → Int) (n k : Nat) (h : k < n) : (rowV V n k).set k (V k) = rowV V n (k + 1) := by
  unfold rowV
  rw [List.set_append_right _ _ (by rw [tldV_len]; exact Nat.le_refl _), tldV_len, Nat.sub_self]
  obtain ⟨m, hm⟩ : ∃ m, n - k = m + 1 := ⟨n - k - 1, by omega⟩
  have hm2 : n - (k + 1) = m := by omega
  rw [hm, hm2, List.replicate_succ, List.set_cons_zero, tldV_succ, List.append_assoc]
  rfl
/-- What a play answers. -/
def RpAt (ns : List Int) (X : List (List Int)) (Y : List Hl) (vs : List Int) (ok : Bool) : Prop :=
  (ns.length ≤ 60 ∧ ∃ M H V, Rpl ns M H V ∧ X = M ns.length ∧ Y = H ns.length ∧ vs = tldV V ns.length ∧ ok = true) ∨
  (¬ ns.length ≤ 60 ∧ X = [] ∧ Y = [] ∧ vs = [] ∧ ok = false)
theorem rpAt_ex (ns : List Int) : ∃ X Y vs ok, RpAt ns X Y vs ok := by
  by_cases h : ns.length ≤ 60
  · obtain ⟨M, H, V, hp⟩ := rpl_ex ns
    exact ⟨_, _, _, _, .inl ⟨h, M, H, V, hp, rfl, rfl, rfl, rfl⟩⟩
  · exact ⟨_, _, _, _, .inr ⟨h, rfl, rfl, rfl, rfl⟩⟩
theorem RpAt.len {ns : List Int} {X : List (List Int)} {Y : List Hl} {vs : List Int} {ok : Bool} (h : RpAt ns X Y vs ok) : (X.length + tot X ≤ 1048576 ∧ Y.length ≤ 1048576) ∧ vs.length ≤ 1048576 := by
  rcases h with ⟨h, M, H, V, hp, rfl, rfl, rfl, rfl⟩ | ⟨_, rfl, rfl, rfl, rfl⟩
  · have o := hp.good ns.length
    rw [tldV_len]
    exact ⟨⟨o.all.tot, by have := o.heldIs.short; omega⟩, by omega⟩
  · exact ⟨⟨by decide, by decide⟩, by decide⟩
theorem RoomsOk.small {m : List (List Int)} {hs : List Hl} (o : RoomsOk m hs) : m.length + tot m ≤ 1048576 ∧ hs.length ≤ 1048576 := ⟨o.all.tot, by have := o.heldIs.short; omega⟩
/-- A giving back goes by the number as it is kept in 64 bits. -/
theorem giveP_wrap {m : List (List Int)} {hs : List Hl} {n : Int} {X : List (List Int)} {Y : List Hl} {ok : Bool} (hn : n ≤ 0) (hw : -9223372036854775808 ≤ n) (h : GiveP m hs (-n) X Y ok) : GiveP m hs (wrap64 (-n)) X Y ok ∧ wfI (wrap64 (-n)) := by
  by_cases e : n = -9223372036854775808
  · have e2 : wrap64 (-n) = -9223372036854775808 := by subst e; decide +kernel
    rw [e2]
    refine ⟨?_, wfI_small (by omega) (by omega)⟩
    rcases h with h | ⟨⟨h1, _⟩, h2⟩ | ⟨an, o, ⟨h0, e3, hin⟩, _⟩
    · exact .inl h
    · refine .inr (.inl ⟨⟨h1, fun o ho => ?_⟩, h2⟩)
      have := (h1.rmHeld ho).2.2.1
      omega
    · have := (h0.rmHeld hin).2.2.2.1
      omega
  · have e2 : wrap64 (-n) = -n := by
      unfold wrap64
      omega
    rw [e2]
    exact ⟨h, wfI_small (by omega) (by omega)⟩

set_option maxRecDepth 100000 in
set_option maxHeartbeats 1600000 in
theorem playRoom_calls (n : Int) (f h : Value) (m : List (List Int)) (hs : List Hl) (X : List (List Int)) (Y : List Hl) (v : Int) (w : World) (hf : RdM w f m) (hh : RdH w h hs) (o : RoomsOk m hs) (hn : -9223372036854775808 ≤ n) (hp : RpTo m hs n X Y v) :
    Calls Try.prog 72 #[.agg #[f, h], .int .i64 n] w fun e w' => ∃ f' h' X' Y' v' ok, e = .returned (.tuple #[.agg #[f', h'], .int .i64 v', .bool ok]) ∧ RomV w' w.heap.size w'.heap.size f' h' X' Y' ∧ ((ok = true ∧ X' = X ∧ Y' = Y ∧ v' = v) ∨ (ok = false ∧ X = m ∧ Y = hs ∧ v = -1)) ∧ Below w.heap.size w w' := by
  obtain ⟨af, cf, rfl, _, _⟩ := hf.sl
  obtain ⟨ah, ch, rfl, _, _⟩ := hh.sl
  have RF := hide hf
  have RH := hide hh
  have SM := hide o.small
  have A0 := hide (Hand.twoN w #[.slice af m.length cf, .slice ah hs.length ch] nilR 29 29)
  rcases hp with ⟨h0, X', Y', a, ok, ht, hE⟩ | ⟨h0, X', Y', ok, ht, hE⟩
  · have HT := hide ht
    have HE := hide hE
    clear hf hh o ht hE
    go_enter Try.func72, Try.ntmps72
    go_wp2_with fail
    refine (takeRoom_calls _ _ m hs n X' Y' a ok _ (RF.out.below A0.out.below) (RH.out.below A0.out.below) SM.out.1 SM.out.2 HT.out).mono ?_
    rintro e w1 ⟨f1, h1, rfl, d1, b1⟩
    obtain ⟨a1, c1, a2, c2, rfl, rfl⟩ := d1.sl
    have A1 := hide (A0.out.add b1 (TRom.st _ _ _ _) d1)
    clear d1 b1 A0
    obtain ⟨z0, z1⟩ := (A1.out.atBox 1 rfl).c2
    have y0 := (A1.out.atBox 1 rfl).frozen 0
    have y1 := (A1.out.atBox 1 rfl).frozen 1
    have A9 := hide (A1.out.store2 1 rfl (.slice a1 X'.length c1) (.slice a2 Y'.length c2))
    clear A1
    go_wp2
    obtain ⟨l9, h9, d9, e1, e2, _⟩ := A9.out.open 0 rfl
    exact bodyPost_ret (res_rm3 rfl _ _ (w.heap.size + 1) _ _ (0, 0) rfl (A9.out.atBox 1 rfl)) rfl ⟨_, _, X', Y', a, ok, rfl, RomV.wider d9 e1 e2, HE.out.elim (fun h => .inl ⟨h.1, h.2.1.symm, h.2.2.1.symm, h.2.2.2.symm⟩) .inr, A9.out.below⟩
  · have HT := hide (giveP_wrap h0 hn ht)
    have HE := hide hE
    have h0' : ¬ 0 < n := by omega
    clear hf hh o ht hE
    go_enter Try.func72, Try.ntmps72
    go_wp2_with fail
    refine (giveRoom_calls _ _ m hs (wrap64 (-n)) X' Y' ok _ (RF.out.below A0.out.below) (RH.out.below A0.out.below) SM.out.1 SM.out.2 HT.out.2 HT.out.1).mono ?_
    rintro e w1 ⟨f1, h1, rfl, d1, b1⟩
    obtain ⟨a1, c1, a2, c2, rfl, rfl⟩ := d1.sl
    have A1 := hide ((A0.out.add b1 (TRom.st _ _ _ _) d1).box #[.slice a1 X'.length c1, .slice a2 Y'.length c2] 29)
    clear d1 b1 A0
    obtain ⟨z0, z1⟩ := (A1.out.atBox 2 rfl).c2
    have y0 := (A1.out.atBox 2 rfl).frozen 0
    have y1 := (A1.out.atBox 2 rfl).frozen 1
    have A9 := hide (A1.out.store2 2 rfl (.slice a1 X'.length c1) (.slice a2 Y'.length c2))
    clear A1
    go_wp2
    obtain ⟨l9, h9, d9, e1, e2, _⟩ := A9.out.open 1 rfl
    exact bodyPost_ret (res_rm3 rfl _ _ (w.heap.size + 1) _ _ (0, 0) rfl (A9.out.atBox 2 rfl)) rfl ⟨_, _, X', Y', 0, ok, rfl, RomV.wider d9 e1 e2, HE.out.elim (fun h => .inl ⟨h.1, h.2.1.symm, h.2.2.1.symm, h.2.2.2.symm⟩) .inr, A9.out.below⟩
end Go.Proofs.Ytjffjoednmlkiaa

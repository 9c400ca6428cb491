/-
  Whether rooms are good, of the program, as a whole; how many places are free, the greatest free order. Each contract says what it asks.
-/
import Derived.Test.YtjffjoednmlkiaaRmd
namespace Go.Proofs.Ytjffjoednmlkiaa
open Go.RowKit Go.Maps Go.MapKept Go.ChangeMaps
set_option linter.unusedVariables false

/-- A row of free rooms of an order, none of which has its buddy there. -/
def rowP (o : Nat) (xs : List Int) : Prop := ∀ i, i < xs.length → rmP (xs.getD i 0) (o : Int) ∧ (i = 0 ∨ xs.getD (i - 1) 0 < xs.getD i 0) ∧ (o ≠ 5 → ¬ bud (xs.getD i 0) o ∈ xs)
/-- Held rooms, by rising places. -/
def heldP (hs : List Hl) : Prop := ∀ i, i < hs.length → rmP (hs.getD i hl0).1 (hs.getD i hl0).2 ∧ (i = 0 ∨ (hs.getD (i - 1) hl0).1 < (hs.getD i hl0).1)
/-- Good rooms. -/
structure RoomsOk (m : List (List Int)) (hs : List Hl) : Prop where
  len : m.length = 6
  rows : ∀ o, o < m.length → rowP o (m.getD o [])
  held : heldP hs
  cov : cov1 (allR 0 m ++ hs)
theorem getD_memR {α : Type} (xs : List α) (i : Nat) (d : α) (h : i < xs.length) : xs.getD i d ∈ xs := by
  rw [List.getD_eq_getElem?_getD, List.getElem?_eq_getElem h, Option.getD_some]
  exact List.getElem_mem h
theorem frRow_iff (xs : List Int) (o : Nat) : frRow xs (o : Int) = true ↔ rowP o xs := by
  unfold frRow
  rw [Bool.and_eq_true, rises_iffR, List.all_eq_true]
  have key : ∀ a : Int, rmFree xs (o : Int) a = true ↔ rmP a (o : Int) ∧ (o ≠ 5 → ¬ bud a o ∈ xs) := by
    intro a
    unfold rmFree
    rw [Bool.and_eq_true, rmB_iff]
    constructor
    · rintro ⟨h1, h2⟩
      refine ⟨h1, fun h5 hm => ?_⟩
      have hb : bdB a (o : Int) = true := by
        unfold bdB
        rw [(rmB_iff _ _).2 h1, decide_eq_true (by omega)]
        rfl
      have hv : bdV a (o : Int) = bud a o := by
        unfold bdV
        rw [hb, if_pos rfl, Int.toNat_natCast]
      rw [hb, hv, decide_eq_true hm] at h2
      simp at h2
    · rintro ⟨h1, h2⟩
      refine ⟨h1, ?_⟩
      cases hb : bdB a (o : Int) with
      | false => rfl
      | true =>
        have h5 : (o : Int) ≠ 5 := by
          intro e
          rw [e, bd_five] at hb
          cases hb
        have hv : bdV a (o : Int) = bud a o := by
          unfold bdV
          rw [hb, if_pos rfl, Int.toNat_natCast]
        rw [hv, decide_eq_false (h2 (by omega))]
        rfl
  constructor
  · rintro ⟨h1, h2⟩ i hi
    have h3 := (key _).1 (h2 _ (getD_memR xs i 0 hi))
    exact ⟨h3.1, (h1 i hi).2.2, h3.2⟩
  · intro h
    refine ⟨fun i hi => ?_, fun x hx => ?_⟩
    · obtain ⟨h1, h2, _⟩ := h i hi
      exact ⟨h1.2.2.1, h1.2.2.2.1, h2⟩
    · obtain ⟨i, hi, rfl⟩ := List.getElem_of_mem hx
      have h1 := h i hi
      rw [List.getD_eq_getElem?_getD, List.getElem?_eq_getElem hi, Option.getD_some] at h1
      exact (key _).2 ⟨h1.1, h1.2.2⟩
theorem map_getD {α β : Type} (f : α → β) (xs : List α) (i : Nat) (d : α) (e : β) (h : i < xs.length) : (xs.map f).getD i e = f (xs.getD i d) := by
  simp [List.getD_eq_getElem?_getD, h]
theorem hdRow_iff (hs : List Hl) : hdRow hs = true ↔ heldP hs := by
  unfold hdRow
  rw [Bool.and_eq_true, rises_iffR, List.all_eq_true]
  constructor
  · rintro ⟨h1, h2⟩ i hi
    have h3 := (rmB_iff _ _).1 (h2 _ (getD_memR hs i hl0 hi))
    have h4 := (h1 i (by simpa using hi)).2.2
    rw [map_getD Prod.fst hs i hl0 0 hi] at h4
    refine ⟨h3, ?_⟩
    rcases h4 with h4 | h4
    · exact .inl h4
    · by_cases h0 : i = 0
      · exact .inl h0
      · rw [map_getD Prod.fst hs (i - 1) hl0 0 (by omega)] at h4
        exact .inr h4
  · intro h
    refine ⟨fun i hi => ?_, fun x hx => ?_⟩
    · have hi' : i < hs.length := by simpa using hi
      obtain ⟨h1, h2⟩ := h i hi'
      rw [map_getD Prod.fst hs i hl0 0 hi']
      refine ⟨h1.2.2.1, h1.2.2.2.1, ?_⟩
      rcases h2 with h2 | h2
      · exact .inl h2
      · right
        rw [map_getD Prod.fst hs (i - 1) hl0 0 (by omega)]
        exact h2
    · obtain ⟨i, hi, rfl⟩ := List.getElem_of_mem hx
      have h1 := h i hi
      rw [List.getD_eq_getElem?_getD, List.getElem?_eq_getElem hi, Option.getD_some] at h1
      exact (rmB_iff _ _).2 h1.1
theorem are_rm {m : List (List Int)} {hs : List Hl} (hl : m.length ≤ 6) (h1 : ∀ o, o < m.length → rowP o (m.getD o [])) (h2 : heldP hs) : AreRm m hs :=
  ⟨hl, fun o ho i hi => (h1 o ho i hi).1, fun i hi => (h2 i hi).1⟩
theorem bFR {p : Prop} {y : Bool} (h : y = true ↔ p) (hn : ¬ p) : y = false := by
  cases y with
  | false => rfl
  | true => exact absurd (h.1 rfl) hn

set_option maxRecDepth 100000 in
set_option maxHeartbeats 3200000 in
theorem goodRooms_calls (f h : Value) (m : List (List Int)) (hs : List Hl) (y : Bool) (w : World) (hf : RdM w f m) (hh : RdH w h hs) (hz : tot m + hs.length ≤ 2097152) (hz2 : hs.length ≤ 1048576) (hy : y = true ↔ RoomsOk m hs) :
    Calls Try.prog 57 #[.agg #[f, h]] w fun e w' => e = .returned (.bool y) ∧ Below w.heap.size w w' := by
  obtain ⟨af, cf, rfl, q1, q2⟩ := hf.sl
  obtain ⟨ah, ch, rfl, q3, q4⟩ := hh.sl
  have hmm : m.length ≤ maxLen := by omega
  unfold maxLen at hmm
  have RF := hide hf
  have RH := hide hh
  have HZ := hide hz
  have HY := hide hy
  have A0 := hide ((Hand.start w).box #[.slice af m.length cf, .slice ah hs.length ch] 29)
  obtain ⟨x0, x1⟩ := (A0.out.atBox 0 rfl).c2
  clear hf hh hz hy q1 q2 q3 q4
  by_cases h6 : m.length = 6
  case neg =>
    obtain rfl : y = false := bFR HY.out (fun h => h6 h.len)
    have e6 : ((m.length : Int) != 6) = true := by simp; omega
    clear h6
    go_enter Try.func57, Try.ntmps57
    go_wp2
    go_ret
    exact ⟨rfl, A0.out.below⟩
  have e6 : ((m.length : Int) != 6) = false := by simp; omega
  have H6 := hide h6
  have ml : m.length ≤ 6 := by omega
  clear h6
  by_cases hh : heldP hs
  case neg =>
    obtain rfl : y = false := bFR HY.out (fun h => hh h.held)
    have E : Hid (hdRow hs = false) := by
      show hdRow hs = false
      cases hc : hdRow hs with
      | false => rfl
      | true => exact absurd ((hdRow_iff hs).1 hc) hh
    clear hh
    go_enter Try.func57, Try.ntmps57
    go_wp2_with fail
    refine (areHeld_calls _ hs _ (RH.out.below A0.out.below) hz2).mono ?_
    rw [E.out]
    rintro e w1 ⟨rfl, b1⟩
    have A1 := hide (A0.out.step b1)
    clear b1
    go_wp2
    go_ret
    exact ⟨rfl, A1.out.below⟩
  have E : Hid (hdRow hs = true) := (hdRow_iff hs).2 hh
  have HH := hide hh
  clear hh
  go_enter Try.func57, Try.ntmps57
  go_wp2_with fail
  refine (areHeld_calls _ hs _ (RH.out.below A0.out.below) hz2).mono ?_
  rw [E.out]
  rintro e w1 ⟨rfl, b1⟩
  have A1 := hide (A0.out.step b1)
  clear b1 A0 x0 x1
  obtain ⟨x0, x1⟩ := (A1.out.atBox 0 rfl).c2
  go_wp2_with fail
  clear x0 x1
  go_loopw [18] (fun v wr => ∃ k : Nat, k ≤ m.length ∧ v = .int .i64 (k : Int) ∧ (∀ o, o < k → rowP o (m.getD o [])) ∧ Hand w wr [TBox w.heap.size #[.slice af m.length cf, .slice ah hs.length ch] 29]) (fun v _ => m.length - (intOf v).toNat)
  case atStart => exact ⟨0, Nat.zero_le _, rfl, fun o ho => by omega, A1.out⟩
  case round =>
    obtain ⟨k, hk, rfl, hall, ha⟩ := hrel
    have AL := hide hall
    have A2 := hide ha
    clear hall ha A1
    by_cases hlt : k < m.length
    · have hlt' : (k : Int) < (m.length : Int) := by omega
      obtain ⟨bb, off, u, rfl, hc, hu⟩ := (RF.out.below A2.out.below).row k hlt
      have IF := hide (frRow_iff (m.getD k []) k)
      obtain ⟨r, hr⟩ : ∃ r, r = m.getD k [] := ⟨_, rfl⟩
      have HR := hide hr
      rw [← hr] at hu IF
      have RU := hide hu
      clear hr hu
      cases hg : frRow r (k : Int) with
      | true =>
        have G := hide hg
        clear hg
        go_wp2_with fail
        refine (areFree_calls _ r (k : Int) _ RU.out).mono ?_
        rw [G.out]
        rintro e w3 ⟨rfl, b3⟩
        have A3 := hide (A2.out.step b3)
        clear b3
        go_wp2
        go_roundw
        case rel =>
          refine ⟨k + 1, by omega, by go_num, fun o ho => ?_, A3.out⟩
          by_cases e : o = k
          · subst e; rw [← HR.out]; exact IF.out.1 G.out
          · exact AL.out o (by omega)
        case measure => simp [intOf]; omega
      | false =>
        obtain rfl : y = false := bFR HY.out (fun h => by
          have := IF.out.2 (by rw [HR.out]; exact h.rows k hlt)
          rw [hg] at this
          cases this)
        have G := hide hg
        clear hg
        go_wp2_with fail
        refine (areFree_calls _ r (k : Int) _ RU.out).mono ?_
        rw [G.out]
        rintro e w3 ⟨rfl, b3⟩
        have A3 := hide (A2.out.step b3)
        clear b3
        go_wp2
        go_ret
        exact ⟨rfl, A3.out.below⟩
    · obtain rfl : k = m.length := by omega
      have AR := hide (are_rm ml AL.out HH.out)
      have IFY : Hid (y = true ↔ cov1 (allR 0 m ++ hs)) := ⟨fun h => (HY.out.1 h).cov, fun h => HY.out.2 ⟨H6.out, AL.out, HH.out, h⟩⟩
      obtain ⟨x0, x1⟩ := (A2.out.atBox 0 rfl).c2
      clear hk
      go_wp2_with fail
      refine (coverAll_calls _ _ m hs y _ (RF.out.below A2.out.below) (RH.out.below A2.out.below) AR.out HZ.out IFY.out).mono ?_
      rintro e w3 ⟨rfl, b3⟩
      have A3 := hide (A2.out.step b3)
      clear b3 x0 x1
      go_wp2
      go_ret
      exact ⟨rfl, A3.out.below⟩
end Go.Proofs.Ytjffjoednmlkiaa

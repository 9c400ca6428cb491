/-
  DistanceOf: the program's function and its model's, at all rows. No condition.
-/
import Derived.Test.YtogopakmebiomaaDoorSame
namespace Go.Proofs.YtogopakmebiomaaDoor
open Go.RowKit

def distOk (a b : List (List Int)) : Bool := decide (a.length = b.length) && (decide (a.length ≤ 10) && piecesOk (a ++ b))
def distR (a b : List (List Int)) : Int × Bool := if distOk a b = true then (((unlTo a b a.length : Nat) : Int), true) else (0, false)
theorem pieces_app {a b : List (List Int)} (hl : a.length = b.length) : piecesOk (a ++ b) = (piecesOk a && (piecesOk b && (decide (a.length = 0) || decide ((a.getD 0 []).length = (b.getD 0 []).length)))) := by
  rw [Bool.eq_iff_iff]
  simp only [Bool.and_eq_true, Bool.or_eq_true, decide_eq_true_eq]
  have g : ∀ i, i < a.length → (a ++ b).getD i [] = a.getD i [] := fun i hi => by rw [getD_app, if_pos hi]
  have g' : ∀ i, (a ++ b).getD (a.length + i) [] = b.getD i [] := fun i => by rw [getD_app, if_neg (by omega), Nat.add_sub_cancel_left]
  have gl : (a ++ b).length = a.length + b.length := by simp
  constructor
  · intro h
    have f := piecesOk_at h
    by_cases h0 : a.length = 0
    · have ea : a = [] := List.eq_nil_of_length_eq_zero h0
      have eb : b = [] := List.eq_nil_of_length_eq_zero (by omega)
      subst ea eb
      exact ⟨rfl, rfl, .inl rfl⟩
    · have f0 := f a.length (by omega)
      have e0 := g' 0
      rw [Nat.add_zero] at e0
      rw [e0, g 0 (by omega)] at f0
      refine ⟨piecesOk_yes fun i hi => ?_, piecesOk_yes fun i hi => ?_, .inr f0.1.symm⟩
      · have := f i (by omega)
        rw [g i hi, g 0 (by omega)] at this
        rw [pieceAt, decide_eq_true ⟨this.1, this.2.1⟩, this.2.2]; rfl
      · have := f (a.length + i) (by omega)
        rw [g' i, g 0 (by omega)] at this
        rw [pieceAt, decide_eq_true ⟨by omega, this.2.1⟩, this.2.2]; rfl
  · rintro ⟨h1, h2, h3⟩
    refine piecesOk_yes fun i hi => ?_
    rw [gl] at hi
    have h0 : 0 < a.length := by omega
    have e0 : (a.getD 0 []).length = (b.getD 0 []).length := by
      rcases h3 with h3 | h3
      · omega
      · exact h3
    by_cases h : i < a.length
    · have := piecesOk_at h1 i h
      rw [pieceAt, g i h, g 0 h0, decide_eq_true ⟨this.1, this.2.1⟩, this.2.2]; rfl
    · have := piecesOk_at h2 (i - a.length) (by omega)
      have e := g' (i - a.length)
      rw [show a.length + (i - a.length) = i from by omega] at e
      rw [pieceAt, e, g 0 h0, decide_eq_true ⟨by omega, this.2.1⟩, this.2.2]; rfl

theorem rdM_join {w w' : World} {us vs : List Value} {a b : List (List Int)} {g : Nat} (hu : us.length = a.length) (hv : vs.length = b.length) (ha : ∀ i, i < a.length → Rd w' (us.getD i nilRow) (a.getD i [])) (hb : ∀ i, i < b.length → Rd w' (vs.getD i nilRow) (b.getD i []))
    (ho : w'.ownsRow w.heap.size 22 1 (.slice (some ⟨g, 0, none⟩) (us.length + vs.length) (us.length + vs.length)) (us.length + vs.length) (us ++ vs)) (hm : us.length + vs.length ≤ 8192) :
    RdM w' (.slice (some ⟨g, 0, none⟩) (us.length + vs.length) (us.length + vs.length)) (a ++ b) := by
  have hl : (a ++ b).length = us.length + vs.length := by simp [hu, hv]
  have hlt : g < w'.heap.size := (World.ownsRow.lt ho g rfl).2
  refine ⟨_, us.length + vs.length, by rw [hl], by rw [hl]; exact Nat.le_refl _, ⟨by unfold maxLen; omega, fun h => by cases h⟩, .inr ⟨g, 0, rfl, hlt, fun i hi => ?_⟩⟩
  rw [hl] at hi
  have hi2 : i < (us ++ vs).length := by simp; exact hi
  refine ⟨(us ++ vs).getD i nilRow, ?_, ?_⟩
  · rw [Nat.zero_add, World.ownsRow.cellAt ho i (by omega), List.getD_eq_getElem?_getD, List.getElem?_eq_getElem hi2]
    rfl
  · rw [getD_app, getD_app, hu]
    split
    · rename_i h; exact ha i h
    · exact hb _ (by omega)

set_option maxRecDepth 100000 in
set_option maxHeartbeats 800000 in
theorem joinLists_none (fv bv : Value) (w : World) (hf : Vals w fv []) (hb : Vals w bv []) :
    Calls Tryd.prog 118 #[fv, bv] w fun e w' => ∃ v', e = .returned v' ∧ RdM w' v' [] ∧ Below w.heap.size w w' := by
  obtain ⟨fa, fcap, rfl, f1, f2, f3⟩ := hf
  obtain ⟨ba, bcap, rfl, b1, b2, b3⟩ := hb
  clear f1 f2 f3 b1 b2 b3
  go_enter Tryd.func118, Tryd.ntmps118
  go_wp2_with (at_make; refine wpList_make_rows rfl _ _ rfl _ _ 0 rfl rfl (by simp) (by simp) (by omega) ?_)
  intro w0 hm0 hg0
  have B0 := hide ((Below.refl w.heap.size w).grown hg0 (Nat.le_refl _) (fun k h => by cases h))
  have M0 := hide hm0.rd
  clear hm0 hg0
  go_wp2_with (refine wpList_copy_nothing rfl _ _ 46 46 rfl 22 Tryd.underlying46 infoRowSize _ _ _ _ _ _ rfl rfl (by simp) ?_)
  go_ret
  exact ⟨_, rfl, M0.out, B0.out⟩

set_option maxRecDepth 100000 in
set_option maxHeartbeats 800000 in
theorem joinLists_rd (av bv : Value) (a b : List (List Int)) (w : World) (ha : RdM w av a) (hb : RdM w bv b) (hl : a.length = b.length) (hn : a.length ≤ 10) :
    Calls Tryd.prog 118 #[av, bv] w fun e w' => ∃ v', e = .returned v' ∧ RdM w' v' (a ++ b) ∧ Below w.heap.size w w' := by
  obtain ⟨us, hu1, hu2, hu3⟩ := ha.vals
  obtain ⟨vs, hv1, hv2, hv3⟩ := hb.vals
  by_cases h0 : a.length = 0
  · have ea : a = [] := List.eq_nil_of_length_eq_zero h0
    have eb : b = [] := List.eq_nil_of_length_eq_zero (by omega)
    subst ea eb
    have eu : us = [] := List.eq_nil_of_length_eq_zero hu2
    have ev : vs = [] := List.eq_nil_of_length_eq_zero hv2
    subst eu ev
    exact joinLists_none av bv w hu1 hv1
  · refine (joinLists_calls av bv us vs w hu1 hv1 (by omega) (by omega) (by omega)).mono ?_
    rintro e w' ⟨rfl, ho, hg⟩
    have hB : Below w.heap.size w w' := (Below.refl _ _).grown hg (Nat.le_refl _) (fun k h => by cases h)
    exact ⟨_, rfl, rdM_join hu2 hv2 (fun i hi => (hu3 i hi).below hB) (fun i hi => (hv3 i hi).below hB) ho (by omega), hB⟩

set_option maxRecDepth 100000 in
set_option maxHeartbeats 1600000 in
theorem distanceOf_calls (av bv : Value) (a b : List (List Int)) (w : World) (ha : RdM w av a) (hb : RdM w bv b) :
    Calls Tryd.prog 54 #[av, bv] w fun e w' => e = .returned (.tuple #[.int .i64 (distR a b).1, .bool (distR a b).2]) ∧ Below w.heap.size w w' := by
  have RA := hide ha
  have RB := hide hb
  obtain ⟨aa, acap, rfl, _⟩ := ha
  obtain ⟨ba, bcap, rfl, _⟩ := hb
  by_cases hl : a.length = b.length
  · have t1 : ((a.length : Int) != (b.length : Int)) = false := by simp; omega
    by_cases h10 : a.length ≤ 10
    · have t2 : ¬ (10 : Int) < (a.length : Int) := by omega
      cases hp : piecesOk (a ++ b) with
      | false =>
        have e : distR a b = (0, false) := by simp [distR, distOk, hp]
        rw [e]
        have PO := hide hp
        have HL := hide hl
        have H10 := hide h10
        clear hp e hl h10
        go_enter Tryd.func54, Tryd.ntmps54
        go_wp2_with fail
        refine (joinLists_rd _ _ a b _ RA.out RB.out HL.out H10.out).mono ?_
        rintro e w1 ⟨v1, rfl, hm1, hb1⟩
        have M1 := hide hm1
        have B1 := hide hb1
        clear hm1 hb1
        go_wp2_with fail
        refine (arePieces_calls _ (a ++ b) _ M1.out).mono ?_
        rw [PO.out]
        rintro e w2 ⟨rfl, hb2⟩
        have B2 := hide (B1.out.trans (hb2.mono B1.out.size))
        clear hb2
        go_wp2
        go_ret2
        exact ⟨rfl, B2.out⟩
      | true =>
        obtain ⟨c, hc⟩ : ∃ c : Nat, c = unlTo a b a.length := ⟨_, rfl⟩
        have e : distR a b = (((c : Nat) : Int), true) := by rw [hc]; simp [distR, distOk, hp, hl]; omega
        rw [e]
        have f := piecesOk_at hp
        have HR : Hid (∀ i, i < a.length → (a.getD i []).length = (b.getD i []).length ∧ (a.getD i []).length ≤ 32) := fun i hi => by
          have f1 := f i (by simp; omega)
          have f2 := f (a.length + i) (by simp; omega)
          rw [getD_app, if_pos hi] at f1
          rw [getD_app, if_neg (by omega), Nat.add_sub_cancel_left] at f2
          exact ⟨by omega, f1.2.1⟩
        have PO := hide hp
        have HL := hide hl
        have H10 := hide h10
        have HC := hide hc
        clear hp e hl h10 hc f
        go_enter Tryd.func54, Tryd.ntmps54
        go_wp2_with fail
        refine (joinLists_rd _ _ a b _ RA.out RB.out HL.out H10.out).mono ?_
        rintro e w1 ⟨v1, rfl, hm1, hb1⟩
        have M1 := hide hm1
        have B1 := hide hb1
        clear hm1 hb1
        go_wp2_with fail
        refine (arePieces_calls _ (a ++ b) _ M1.out).mono ?_
        rw [PO.out]
        rintro e w2 ⟨rfl, hb2⟩
        have B2 := hide (B1.out.trans (hb2.mono B1.out.size))
        clear hb2
        go_wp2_with fail
        refine (countUnlike_calls _ _ a b a.length _ (RA.out.below B2.out) (RB.out.below B2.out) rfl HL.out.symm (by have := H10.out; omega) HR.out).mono ?_
        rw [← HC.out]
        rintro e w3 ⟨rfl, hb3⟩
        have B3 := hide (B2.out.trans (hb3.mono B2.out.size))
        clear hb3
        go_wp2
        go_ret2
        exact ⟨rfl, B3.out⟩
    · have t2 : (10 : Int) < (a.length : Int) := by omega
      have e : distR a b = (0, false) := by simp [distR, distOk, h10]
      rw [e]
      clear hl h10 e
      go_enter Tryd.func54, Tryd.ntmps54
      go_wp2
      go_ret2
      exact ⟨rfl, Below.refl _ _⟩
  · have t1 : ((a.length : Int) != (b.length : Int)) = true := by simp; omega
    have e : distR a b = (0, false) := by simp [distR, distOk, hl]
    rw [e]
    clear hl e
    go_enter Tryd.func54, Tryd.ntmps54
    go_wp2
    go_ret2
    exact ⟨rfl, Below.refl _ _⟩
end Go.Proofs.YtogopakmebiomaaDoor

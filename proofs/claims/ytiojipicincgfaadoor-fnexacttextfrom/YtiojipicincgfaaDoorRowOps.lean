/-
  Rows of elements scaled and added, in place: the program's functions and its model's, call by call. Each contract says what it asks.
-/
import Derived.Test.YtiojipicincgfaaDoorAdd
import Derived.Test.YtiojipicincgfaaDoorMake
namespace Go.Proofs.YtiojipicincgfaaDoor
open Go.RowKit
namespace Gf

theorem ci_nat {xs : List Int} (h : xs.all elOk = true) : ci (nat xs) = xs := by
  unfold ci nat
  rw [List.map_map]
  conv => rhs; rw [← List.map_id xs]
  apply List.map_congr_left
  intro x hx
  have := elOk_iff.1 (List.all_eq_true.1 h x hx)
  simp; omega
theorem nat_lt {xs : List Int} (h : xs.all elOk = true) : AllLt (nat xs) := by
  intro i
  unfold nat
  rw [List.getD_eq_getElem?_getD, List.getElem?_map]
  by_cases hi : i < xs.length
  · rw [List.getElem?_eq_getElem hi]
    have := elOk_iff.1 (List.all_eq_true.1 h _ (List.getElem_mem hi))
    simp; omega
  · rw [List.getElem?_eq_none (by omega)]; simp
theorem ci_zeros (n : Nat) : ci (List.replicate n 0) = List.replicate n 0 := by simp [ci]

theorem tab_grown {w w' : World} {row : Option Nat} (hT : Tab w) (hg : w.grownBy w' row) (hr : ∀ k, row = some k → 1 < k) : Tab w' := by
  intro k hk
  rw [← hT k hk]
  refine World.cell?_of_block (w := w) (hg.block 1 (tab_pos hT) (fun e => ?_))
  have := hr 1 e.symm
  omega
theorem tab_chg {w w' : World} {lo hi : Nat} (hT : Tab w) (hc : Chg lo hi w w') (h0 : 1 < lo) : Tab w' := by
  intro k hk
  rw [← hT k hk]
  exact World.cell?_of_block (w := w) (hc.block 1 (tab_pos hT) (.inl h0))

/-- A row, the first k places times f. -/
def scTo (r : List Nat) (f k : Nat) : List Nat := (r.take k).map (mul f) ++ r.drop k
def sc (r : List Nat) (f : Nat) : List Nat := r.map (mul f)
theorem scTo_length (r : List Nat) (f k : Nat) : (scTo r f k).length = r.length := by simp [scTo]; omega
theorem scTo_zero (r : List Nat) (f : Nat) : scTo r f 0 = r := by simp [scTo]
theorem scTo_end (r : List Nat) (f : Nat) : scTo r f r.length = sc r f := by simp [scTo, sc]
theorem scTo_get (r : List Nat) (f k : Nat) (h : k < r.length) : (scTo r f k).getD k 0 = r.getD k 0 := by
  simp only [scTo, List.getD_eq_getElem?_getD]
  rw [List.getElem?_append_right (by simp; omega)]
  simp [Nat.min_eq_left (Nat.le_of_lt h)]
theorem scTo_step (r : List Nat) (f k : Nat) (h : k < r.length) : (scTo r f k).set k (mul f (r.getD k 0)) = scTo r f (k + 1) := by
  unfold scTo
  rw [List.set_append_right _ _ (by simp; omega), List.length_map, List.length_take, Nat.min_eq_left (Nat.le_of_lt h), Nat.sub_self, List.drop_eq_getElem_cons h, List.set_cons_zero, List.take_succ_eq_append_getElem h]
  simp only [List.map_append, List.map_cons, List.map_nil, List.append_assoc, List.singleton_append, List.getD_eq_getElem?_getD, List.getElem?_eq_getElem h, Option.getD_some]
theorem sc_length (r : List Nat) (f : Nat) : (sc r f).length = r.length := by simp [sc]
theorem sc_lt {r : List Nat} {f : Nat} (hf : f < 256) : AllLt (sc r f) := by
  intro i
  unfold sc
  rw [List.getD_eq_getElem?_getD, List.getElem?_map]
  cases r[i]? with
  | none => simp
  | some x => simp; exact mul_lt hf

set_option maxRecDepth 100000 in
set_option maxHeartbeats 800000 in
theorem l2Add_calls (sv qv : Value) (s q : List Nat) (F base : Nat) (w : World) (hs : Own w base sv (ci s)) (hq : ∀ w', w.grownBy w' sv.ownBlock → Rd w' qv (ci q))
    (hf : F < 256) (hfit : q.length ≤ s.length) (hsl : s.length ≤ 1048576) (hsa : AllLt s) (hqa : AllLt q) (h0 : 0 < s.length) :
    Calls Tryd.prog 68 #[sv, qv, .int .i64 F] w fun e w' => e = .returned (.tuple #[]) ∧ Own w' base sv (ci (amTo s q F 0 q.length)) ∧ w.grownBy w' sv.ownBlock := by
  obtain ⟨g, cap, rfl, hg1, hg2, hg3, hg4⟩ := Own.open1 hs (by rw [ci_length]; omega)
  rw [ci_length] at *
  have Q := hide hq
  have S := hide hs
  have SA := hide hsa
  have QA := hide hqa
  obtain ⟨qa, qcap, rfl, hq1, hq2, _⟩ := hq w (World.grownBy.refl _ _)
  simp only [ci_length]
  rw [ci_length] at hq1
  clear hq hs hsa hqa
  go_enter Tryd.func68, Tryd.ntmps68
  go_wp2
  go_loopw [10] (fun vi wr => ∃ k : Nat, k ≤ q.length ∧ vi = .int .i64 k ∧ Own wr base (.slice (some ⟨g, 0, none⟩) s.length cap) (ci (amTo s q F 0 k)) ∧ w.grownBy wr (some g)) (fun vi _ => q.length - (intOf vi).toNat)
  case atStart => exact ⟨0, Nat.zero_le _, rfl, S.out, World.grownBy.refl _ _⟩
  case round =>
    obtain ⟨k, hk, rfl, ho, hgr⟩ := hrel
    by_cases hlt : k < q.length
    · obtain ⟨qa', qcap', hv, _, _, h3⟩ := Q.out wr hgr
      have hv2 : qa' = qa := by simp at hv; exact hv.1.symm
      subst hv2
      clear hv
      rcases h3 with h3 | ⟨b, off, rfl, hbs, hc⟩
      · have := congrArg List.length h3
        rw [ci_length] at this
        simp only [List.length_nil] at this; omega
      have hc1 := hc k (by rw [ci_length]; exact hlt)
      rw [ci_getD] at hc1
      clear hc
      obtain ⟨hc2, hc3⟩ := Own.at ho k (by rw [ci_length, amTo_length]; omega)
      rw [ci_getD] at hc3
      have i2 : (k : Int) < (s.length : Int) := by omega
      have i3 : (k : Int) < (q.length : Int) := by omega
      obtain ⟨z, hz⟩ : ∃ z, z = q.getD k 0 := ⟨_, rfl⟩
      rw [← hz] at hc1
      obtain ⟨y, hy⟩ : ∃ y, y = (amTo s q F 0 k).getD k 0 := ⟨_, rfl⟩
      rw [← hy] at hc3
      have hz256 : z < 256 := by rw [hz]; exact QA.out k
      have hy256 : y < 256 := by rw [hy]; exact amTo_lt SA.out (by omega) k _
      have Z := hide hz
      have Y := hide hy
      have G := hide hgr
      have O := hide ho
      clear hz hy hgr ho
      go_wp2
      go_region_with (go_at_call 83; refine (l1Mul_calls _ _ _ (by omega) (by omega) (by omega) (by omega)).mono ?_; rintro e w' ⟨rfl, rfl⟩)
      all_goals
        go_wp2
        go_roundw
        case rel =>
          refine ⟨k + 1, by omega, by go_num, ?_, ?_⟩
          · have := (O.out.put k ((y ^^^ mul F z : Nat) : Int)).1
            rw [ci_set] at this
            rw [i64_xor _ _ (by omega) (by have := mul_lt (a := z) (b := F) (by omega); omega), mul_comm z F hz256 hf]
            have e : (amTo s q F 0 k).set k (y ^^^ mul F z) = amTo s q F 0 (k + 1) := by rw [Y.out, Z.out]; simp [amTo, xorAt]
            rw [← e]
            exact this.drew
          · exact grownBy_drew (grownBy_trans G.out (O.out.put k _).2)
        case measure => simp [intOf]; omega
    · obtain rfl : k = q.length := by omega
      have G := hide hgr
      have O := hide ho
      clear hgr ho
      go_wp2
      go_end0
      exact ⟨rfl, O.out, G.out⟩
end Gf
end Go.Proofs.YtiojipicincgfaaDoor

/-
  A multiple added to a list that is made longer where it must be, and the shortest rule of syndromes: the model's functions, call by call. No condition.
-/
import Derived.Test.YtogopakmebiomaaDoorLoc
namespace Go.Proofs.YtogopakmebiomaaDoor
open Go.RowKit
namespace Gf

theorem rd_single4 {w : World} {z : Int} : Rd (w.alloc (.cells #[.int .i64 z] 3)) (.slice (some ⟨w.heap.size, 0, none⟩) 1 1) [z] := by
  refine ⟨_, 1, rfl, Nat.le_refl _, ⟨by unfold maxLen; omega, fun h => by cases h⟩, .inr ⟨_, 0, rfl, by simp, fun i hi => ?_⟩⟩
  simp at hi
  subst hi
  exact World.cell?_alloc_at _ _ _ _ (by simp)
theorem ci_app (a b : List Nat) : ci (a ++ b) = ci a ++ ci b := by simp [ci]
def padJ (p : List Nat) (j : Nat) : List Nat := p ++ List.replicate j 0
theorem padJ_step (p : List Nat) (j : Nat) : ci (padJ p j) ++ [0] = ci (padJ p (j + 1)) := by
  unfold padJ
  rw [List.replicate_succ', ← List.append_assoc, ci_app _ [0]]
  rfl
theorem padJ_length (p : List Nat) (j : Nat) : (padJ p j).length = p.length + j := by simp [padJ]

set_option maxRecDepth 100000 in
set_option maxHeartbeats 3200000 in
theorem l4Add_calls (pv qv : Value) (p q : List Nat) (F A : Nat) (w : World) (hp : Rd w pv (ci p)) (hq : Rd w qv (ci q)) (hpl : AllLt p) (hql : AllLt q) (hF : F < 256) (hpn : p.length ≤ 64) (hqn : q.length ≤ 64) (hA : A ≤ 64) (hA1 : 1 ≤ A) :
    Calls Tryd.prog 131 #[pv, qv, .int .i64 F, .int .i64 A] w fun e w' => ∃ v', e = .returned v' ∧ Own w' w.heap.size v' (ci (smAdd p q F A)) ∧ Below w.heap.size w w' := by
  have P := hide hp
  have Q := hide hq
  have PL := hide hpl
  have QL := hide hql
  obtain ⟨pa, pc, rfl, _, _, _⟩ := hp
  obtain ⟨qa, qc, rfl, _, _, _⟩ := hq
  simp only [ci_length]
  have P1 : Hid (Rd w (.slice pa p.length pc) (ci p)) := by have := P.out; rwa [ci_length] at this
  clear P
  obtain ⟨D, hD⟩ : ∃ D, D = q.length + A - p.length := ⟨_, rfl⟩
  have HR : Hid (smAdd p q F A = amTo (padJ p D) q F A q.length) := by rw [hD]; rfl
  obtain ⟨res, hres⟩ : ∃ r, r = smAdd p q F A := ⟨_, rfl⟩
  rw [← hres]
  have RES := hide hres
  have hDp : D ≤ 128 := by omega
  have hDq : q.length + A ≤ p.length + D := by omega
  have hDz : ∀ j, j < D → p.length + j < q.length + A := by omega
  have HDZ := hide hDz
  clear hpl hql hres hD hDz
  have OO : Hid ((w.alloc (.cells #[] 3)).ownsRow w.heap.size 3 1 (.slice (some ⟨w.heap.size, 0, none⟩) 0 0) 0 (([] : List Int).map (Value.int .i64))) := World.ownsRow_lit w #[] 0 (Nat.le_refl _) (by decide) (by rfl)
  have PP := hide (P1.out.below ((Below.refl w.heap.size w).alloc (Nat.le_refl _) (.cells #[] 3)))
  go_enter Tryd.func131, Tryd.ntmps131
  go_wp2_with (at_builtin; refine wpList_append_rd rfl (.tmp 12) (.tmp 13) rfl w.heap.size _ 0 [] (ci p) rfl OO.out _ rfl PP.out (by rw [ci_length]; omega) (by simp) ?_)
  intro v1 w1 ho1 hg1
  have hb1 : Below w.heap.size w w1 := ((Below.refl w.heap.size w).alloc (Nat.le_refl _) _).grown hg1 (by simp) (fun i hi => by cases hi; exact Nat.le_refl _)
  have O1 := hide ho1
  have B1 := hide hb1
  clear ho1 hg1 hb1
  go_wp2
  go_loopw [9] (fun vo wr => ∃ j : Nat, j ≤ D ∧ Own wr w.heap.size vo (ci (padJ p j)) ∧ Below w.heap.size w wr) (fun vo _ => p.length + D - lenOf vo)
  case atStart => exact ⟨0, Nat.zero_le _, by rw [show padJ p 0 = p from by simp [padJ]]; exact O1.out, B1.out⟩
  case round =>
    obtain ⟨j, hj, ho, hb⟩ := hrel
    have O := hide ho
    have B := hide hb
    obtain ⟨M, hM⟩ : ∃ M, M = p.length + j := ⟨_, rfl⟩
    have hl : (ci (padJ p j)).length = M := by rw [ci_length, padJ_length, hM]
    have HLL := hide hl
    have HM := hide hM
    obtain ⟨oa, oc, hov, _, _, _⟩ := ho.rd
    rw [hl] at hov
    subst hov
    clear ho hb hl
    by_cases hlt : j < D
    · have hlt' : (M : Int) < (q.length : Int) + (A : Int) := by have := HDZ.out j hlt; omega
      have hM64 : M ≤ 256 := by omega
      obtain ⟨M2, hM2⟩ : ∃ M2, M2 = p.length + (j + 1) := ⟨_, rfl⟩
      have hmeas : p.length + D - M2 < p.length + D - M := by omega
      have HM2 := hide hM2
      have OA : Hid (wr.ownsRow w.heap.size 3 1 (.slice oa M oc) M ((ci (padJ p j)).map (Value.int .i64))) := by
        have := O.out
        unfold Own at this
        rw [HLL.out] at this
        exact this
      clear hM hM2
      go_wp2_with (at_builtin; refine wpList_append_rd rfl (.tmp 22) (.tmp 23) rfl w.heap.size _ M (ci (padJ p j)) [0] rfl (OA.out.alloc _) _ rfl rd_single4 (by simp; omega) (by have := B.out.size; simp; omega) ?_)
      intro v2 w2 ho2 hg2
      have hb2 : Below w.heap.size w w2 := (B.out.alloc B.out.size _).grown hg2 (by have := B.out.size; simp; omega) (fun i hi => (O.out.lt i hi).1)
      rw [padJ_step] at ho2
      have O2 := hide ho2
      have B2 := hide hb2
      obtain ⟨oa2, oc2, hov2, _, _, _⟩ := ho2.rd
      rw [ci_length, padJ_length, ← HM2.out] at hov2
      subst hov2
      clear ho2 hg2 hb2
      go_wp2
      go_roundw
      case rel => exact ⟨j + 1, by omega, O2.out, B2.out⟩
      case measure => simp only [lenOf]; exact hmeas
    · obtain rfl : j = D := by omega
      have hlt' : ¬ (M : Int) < (q.length : Int) + (A : Int) := by omega
      obtain ⟨S, hS⟩ : ∃ S, S = padJ p j := ⟨_, rfl⟩
      have hMA : A + q.length ≤ M := by omega
      have hM128 : M ≤ 256 := by omega
      have SLn : S.length = M := by rw [hS, padJ_length, hM]
      have SLt : Hid (AllLt S) := by
        rw [hS]
        intro i
        have := padTo_fn p (p.length + j) i
        unfold padTo at this
        rw [Nat.add_sub_cancel_left] at this
        show fn (padJ p j) i < 256
        unfold padJ
        rw [this]
        exact PL.out i
      obtain ⟨g, hog⟩ : ∃ g, oa = some ⟨g, 0, none⟩ := by
        rcases O.out.2 with ⟨h', _⟩ | ⟨g, cap, cur, h', _⟩
        · exfalso
          simp at h'
          omega
        · simp at h'
          exact ⟨g, h'.1⟩
      subst hog
      have O2 : Hid (wr.ownsRow w.heap.size 3 1 (.slice (some ⟨g, 0, none⟩) M oc) M ((ci S).map (Value.int .i64))) := by
        have := O.out
        unfold Own at this
        rw [HLL.out, ← hS] at this
        exact this
      have RES2 : Hid (res = amTo S q F A q.length) := by rw [RES.out, HR.out, hS]; exact hide rfl
      have hg0 : w.heap.size ≤ g := (O2.out.lt g rfl).1
      have HS := hide SLn
      clear O hS SLn hlt hj hM
      go_wp2
      go_loopw [27] (fun vi wx => ∃ k : Nat, k ≤ q.length ∧ vi = .int .i64 k ∧ wx.ownsRow w.heap.size 3 1 (.slice (some ⟨g, 0, none⟩) M oc) M ((ci (amTo S q F A k)).map (Value.int .i64)) ∧ Below w.heap.size w wx) (fun vi _ => q.length - (intOf vi).toNat)
      case atStart => exact ⟨0, Nat.zero_le _, rfl, O2.out, B.out⟩
      case round =>
        obtain ⟨k, hk, rfl, hown, hb⟩ := hrel
        have O := hide hown
        have BB := hide hb
        clear hown hb
        by_cases hlt : k < q.length
        · obtain ⟨b, off, rfl, hc1⟩ := Rd.rowN (Q.out.below BB.out) k hlt
          have hc2 := O.out.frozenAt (A + k)
          have hc3 := O.out.cellAt (A + k) (by omega)
          obtain ⟨z, hz⟩ : ∃ z, z = q.getD k 0 := ⟨_, rfl⟩
          obtain ⟨y, hy⟩ : ∃ y, y = (amTo S q F A k).getD (A + k) 0 := ⟨_, rfl⟩
          rw [List.getElem?_map] at hc3
          have hll : A + k < (ci (amTo S q F A k)).length := by rw [ci_length, amTo_length, HS.out]; omega
          rw [List.getElem?_eq_getElem hll] at hc3
          have h9 := ci_getD (amTo S q F A k) (A + k)
          rw [List.getD_eq_getElem?_getD, List.getElem?_eq_getElem hll, Option.getD_some] at h9
          rw [h9, ← hy] at hc3
          rw [← hz] at hc1
          clear h9 hll
          have e1 : ((k : Int) + (A : Int)).toNat = A + k := by omega
          have i1 : (0 : Int) ≤ (k : Int) + (A : Int) := by omega
          have i2 : (k : Int) + (A : Int) < (M : Int) := by omega
          have i3 : (k : Int) < (q.length : Int) := by omega
          have i4 : IntKind.i64.wrap ((k : Int) + (A : Int)) = (k : Int) + (A : Int) := by rw [wrap_i64]; omega
          have hz256 : z < 256 := by rw [hz]; exact QL.out k
          have hy256 : y < 256 := by rw [hy]; exact amTo_lt SLt.out hF k _
          have Z := hide hz
          have Y := hide hy
          clear hz hy
          go_wp2
          go_region_with (go_at_call 128; refine (l1Mul_calls _ _ _ (by omega) (by omega) (by omega) (by omega)).mono ?_; rintro e w' ⟨rfl, rfl⟩)
          all_goals
            go_wp2
            go_roundw
            case rel =>
              refine ⟨k + 1, by omega, by go_num, ?_, ?_⟩
              · have := (O.out.stored (A + k) (.int .i64 (y ^^^ mul F z : Nat))).1
                rw [← List.map_set, ci_set, Y.out, Z.out] at this
                rw [i64_xor _ _ (by omega) (by have := mul_lt (a := F) (b := z) (by omega); omega), Y.out, Z.out]
                exact this.drew
              · exact (fun {B : Nat} {w w' : World} (h : Below B w w') => (⟨h.os, h.tape, h.output, h.size, h.block⟩ : Below B w w'.drew)) (BB.out.setCell hg0 _)
            case measure => simp [intOf]; omega
        · obtain rfl : k = q.length := by omega
          have O3 : Hid (Own wr w.heap.size (.slice (some ⟨g, 0, none⟩) M oc) (ci res)) := by
            show World.ownsRow _ _ _ _ _ (ci res).length _
            rw [ci_length, RES2.out, amTo_length, HS.out]
            exact O.out
          clear O
          go_wp2
          go_ret
          exact ⟨_, rfl, O3.out, BB.out⟩
end Gf
end Go.Proofs.YtogopakmebiomaaDoor

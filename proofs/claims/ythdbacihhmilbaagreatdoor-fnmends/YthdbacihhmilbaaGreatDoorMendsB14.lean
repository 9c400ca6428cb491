/-
  Rows of elements scaled and added, in place: the program's functions and its model's, call by call. Each contract says what it asks. Products of matrices: the program's function and its model's, call by call.
-/
import Derived.Test.YthdbacihhmilbaaGreatDoorMendsB13
import Derived.Test.YthdbacihhmilbaaGreatDoorMendsB12
import Derived.Deep.WholeRow
import Derived.Test.YthdbacihhmilbaaGreatDoorMendsB0
set_option maxRecDepth 100000
set_option maxHeartbeats 1600000
set_option linter.unusedSimpArgs false
namespace Go.Proofs.YthdbacihhmilbaaGreatDoor
open Go.RowKit
namespace Gf
theorem ci_nat {xs : List Int} (h : xs.all elOk = true) : ci (nat xs) = xs := by
 unfold ci nat
 rw [List.map_map]
 conv => rhs; rw [← List.map_id xs]
 apply List.map_congr_left
 intro x hx
 have := elOk_iff.1 (List.all_eq_true.1 h x hx)
 simp; omega
theorem nat_lt {xs : List Int} (h : xs.all elOk = true) : AllLt (nat xs) := by
 intro i
 unfold nat
 rw [qg, List.getElem?_map]
 by_cases hi : i < xs.length
 ·rw [List.getElem?_eq_getElem hi]
  have := elOk_iff.1 (List.all_eq_true.1 h _ (List.getElem_mem hi))
  simp; omega
 ·rw [List.getElem?_eq_none (by omega)]; simp
theorem ci_zeros (n : Nat) : ci (List.replicate n 0) = List.replicate n 0 := by simp [ci]
theorem tab_grown {w w' : World} {row : Option Nat} (hT : Tab w) (hg : w.grownBy w' row) (hr : ∀ k, row = some k → 1 < k) : Tab w' := by
 intro k hk
 rw [← hT k hk]
 refine World.cell?_of_block (w := w) (hg.block 1 (tab_pos hT) (fun e => ?_))
 have := hr 1 e.symm
 omega
theorem tab_chg {w w' : World} {lo hi : Nat} (hT : Tab w) (hc : Chg lo hi w w') (h0 : 1 < lo) : Tab w' := by
 intro k hk
 rw [← hT k hk]
 exact World.cell?_of_block (w := w) (hc.block 1 (tab_pos hT) (.inl h0))
def scTo (r : List Nat) (f k : Nat) : List Nat := (r.take k).map (mul f) ++ r.drop k
def sc (r : List Nat) (f : Nat) : List Nat := r.map (mul f)
theorem scTo_length (r : List Nat) (f k : Nat) : (scTo r f k).length = r.length := by simp [scTo]; omega
theorem scTo_zero (r : List Nat) (f : Nat) : scTo r f 0 = r := by simp [scTo]
theorem scTo_end (r : List Nat) (f : Nat) : scTo r f r.length = sc r f := by simp [scTo, sc]
theorem scTo_get (r : List Nat) (f k : Nat) (h : k < r.length) : (scTo r f k).getD k 0 = r.getD k 0 := by
 simp only [scTo, qg]
 rw [List.getElem?_append_right (by simp; omega)]
 simp [Nat.min_eq_left (Nat.le_of_lt h)]
theorem scTo_step (r : List Nat) (f k : Nat) (h : k < r.length) : (scTo r f k).set k (mul f (r.getD k 0)) = scTo r f (k + 1) := by
 unfold scTo
 rw [List.set_append_right _ _ (by simp; omega), List.length_map, List.length_take, Nat.min_eq_left (Nat.le_of_lt h), Nat.sub_self, List.drop_eq_getElem_cons h, List.set_cons_zero, List.take_succ_eq_append_getElem h]
 simp only [List.map_append, List.map_cons, List.map_nil, List.append_assoc, List.singleton_append, qg, List.getElem?_eq_getElem h, Option.getD_some]
theorem sc_length (r : List Nat) (f : Nat) : (sc r f).length = r.length := by simp [sc]
theorem sc_lt {r : List Nat} {f : Nat} (hf : f < 256) : AllLt (sc r f) := by
 intro i
 unfold sc
 rw [qg, List.getElem?_map]
 cases r[i]? with
 | none => simp
 | some x => simp; exact mul_lt hf
theorem headOne_calls (v : Value) (r : List Nat) (at_ base : Nat) (w : World) (hT : Tab w) (hs : Own w base v (ci r)) (hb0 : 1 < base) (hl : r.length ≤ 1048576) (hr : AllLt r) (ha : at_ < r.length) :
    Calls Tryz.prog 194 #[v, .int .i64 at_] w fun e w' => e = .returned (.tuple #[]) ∧ Own w' base v (ci (sc r (inv (r.getD at_ 0)))) ∧ w.grownBy w' v.ownBlock := by
 obtain ⟨g, cap, rfl, hg1, hg2, hg3, hg4⟩ := Own.open1 hs (by rw [ci_length]; omega)
 rw [ci_length] at *
 have T := hide hT
 obtain ⟨hf0, hc0⟩ := Own.at hs at_ (by rw [ci_length]; exact ha)
 rw [ci_getD] at hc0
 have S := hide hs
 have R := hide hr
 obtain ⟨h, hh⟩ : ∃ h, h = r.getD at_ 0 := ⟨_, rfl⟩
 rw [← hh] at hc0
 have hh256 : h < 256 := by rw [hh]; exact hr at_
 rw [← hh]
 clear hT hs hh hr
 obtain ⟨f, hf⟩ : ∃ f, f = inv h := ⟨_, rfl⟩
 have hf256 : f < 256 := by rw [hf]; exact inv_lt h
 rw [← hf]
 have F := hide hf
 clear hf
 have ha' : (at_ : Int) < (r.length : Int) := by omega
 go_enter Tryz.func194, Tryz.ntmps194
 go_wp2_with fail
 refine (inv_calls _ _ T.out (by omega) (by omega)).mono ?_
 rw [Int.toNat_natCast, ← F.out]
 rintro e w' ⟨rfl, rfl⟩
 go_wp2
 go_loopw [14] (fun vi wr => ∃ k : Nat, k ≤ r.length ∧ vi = .int .i64 k ∧ Own wr base (.slice (some ⟨g, 0, none⟩) r.length cap) (ci (scTo r f k)) ∧ w.grownBy wr (some g)) (fun vi _ => r.length - (intOf vi).toNat)
 case atStart => exact ⟨0, Nat.zero_le _, rfl, by rw [scTo_zero]; exact S.out, World.grownBy.refl _ _⟩
 case round =>
  obtain ⟨k, hk, rfl, ho, hgr⟩ := hrel
  have O := hide ho
  have G := hide hgr
  by_cases hlt : k < r.length
  ·have hlt' : (k : Int) < (r.length : Int) := by omega
   obtain ⟨hfz, hc⟩ := Own.at ho k (by rw [ci_length, scTo_length]; exact hlt)
   rw [ci_getD, scTo_get r f k hlt] at hc
   obtain ⟨x, hx⟩ : ∃ x, x = r.getD k 0 := ⟨_, rfl⟩
   rw [← hx] at hc
   have hx256 : x < 256 := by rw [hx]; exact R.out k
   have X := hide hx
   have Tr := hide (tab_grown T.out hgr (fun k hk => by cases hk; omega))
   clear hx ho hgr
   go_wp2_with fail
   refine (mulE_calls _ _ _ Tr.out (by omega) (by omega) (by omega) (by omega)).mono ?_
   rw [Int.toNat_natCast, Int.toNat_natCast]
   rintro e w' ⟨rfl, rfl⟩
   have PP := hide (O.out.put k ((mul f x : Nat) : Int))
   go_wp2
   go_roundw
   case rel =>
    refine ⟨k + 1, by omega, by go_num, ?_, grownBy_trans G.out PP.out.2⟩
    have := PP.out.1
    rw [ci_set, X.out, scTo_step r f k hlt] at this
    rw [X.out]
    exact this
   case measure => simp [intOf]; omega
  ·obtain rfl : k = r.length := by omega
   clear ho hgr
   go_wp2
   go_end0
   have := O.out
   rw [scTo_end] at this
   exact ⟨rfl, this, G.out⟩
theorem l2Scale_calls (v : Value) (r : List Nat) (h base : Nat) (w : World) (hs : Own w base v (ci r)) (hl : r.length ≤ 1048576) (hr : AllLt r) (h0 : 0 < r.length) (hh256 : h < 256) :
    Calls Tryz.prog 203 #[v, .int .i64 h] w fun e w' => e = .returned (.tuple #[]) ∧ Own w' base v (ci (sc r (inv h))) ∧ w.grownBy w' v.ownBlock := by
 obtain ⟨g, cap, rfl, hg1, hg2, hg3, hg4⟩ := Own.open1 hs (by rw [ci_length]; omega)
 rw [ci_length] at *
 have S := hide hs
 have R := hide hr
 obtain ⟨f, hf⟩ : ∃ f, f = inv h := ⟨_, rfl⟩
 have hf256 : f < 256 := by rw [hf]; exact inv_lt h
 rw [← hf]
 have F := hide hf
 clear hf hs hr
 go_enter Tryz.func203, Tryz.ntmps203
 go_wp2
 go_loopw [8] (fun vi wr => ∃ k : Nat, k ≤ r.length ∧ vi = .int .i64 k ∧ Own wr base (.slice (some ⟨g, 0, none⟩) r.length cap) (ci (scTo r f k)) ∧ w.grownBy wr (some g)) (fun vi _ => r.length - (intOf vi).toNat)
 case atStart => exact ⟨0, Nat.zero_le _, rfl, by rw [scTo_zero]; exact S.out, World.grownBy.refl _ _⟩
 case round =>
  obtain ⟨k, hk, rfl, ho, hgr⟩ := hrel
  have O := hide ho
  have G := hide hgr
  by_cases hlt : k < r.length
  ·have hlt' : (k : Int) < (r.length : Int) := by omega
   obtain ⟨hfz, hc⟩ := Own.at ho k (by rw [ci_length, scTo_length]; exact hlt)
   rw [ci_getD, scTo_get r f k hlt] at hc
   obtain ⟨x, hx⟩ : ∃ x, x = r.getD k 0 := ⟨_, rfl⟩
   rw [← hx] at hc
   have hx256 : x < 256 := by rw [hx]; exact R.out k
   have X := hide hx
   clear hx ho hgr
   go_wp2_with fail
   refine (l1Div_calls _ _ _ (by omega) (by omega) (by omega) (by omega)).mono ?_
   rw [Int.toNat_natCast, Int.toNat_natCast, ← F.out, mul_comm x f hx256 hf256]
   rintro e w' ⟨rfl, rfl⟩
   have PP := hide (O.out.put k ((mul f x : Nat) : Int))
   go_wp2
   go_roundw
   case rel =>
    refine ⟨k + 1, by omega, by go_num, ?_, grownBy_trans G.out PP.out.2⟩
    have := PP.out.1
    rw [ci_set, X.out, scTo_step r f k hlt] at this
    rw [X.out]
    exact this
   case measure => simp [intOf]; omega
  ·obtain rfl : k = r.length := by omega
   clear ho hgr
   go_wp2
   go_end0
   have := O.out
   rw [scTo_end] at this
   exact ⟨rfl, this, G.out⟩
theorem l2Add_calls (sv qv : Value) (s q : List Nat) (F base : Nat) (w : World) (hs : Own w base sv (ci s)) (hq : ∀ w', w.grownBy w' sv.ownBlock → Rd w' qv (ci q))
    (hf : F < 256) (hfit : q.length ≤ s.length) (hsl : s.length ≤ 1048576) (hsa : AllLt s) (hqa : AllLt q) (h0 : 0 < s.length) :
    Calls Tryz.prog 164 #[sv, qv, .int .i64 F] w fun e w' => e = .returned (.tuple #[]) ∧ Own w' base sv (ci (amTo s q F 0 q.length)) ∧ w.grownBy w' sv.ownBlock := by
 obtain ⟨g, cap, rfl, hg1, hg2, hg3, hg4⟩ := Own.open1 hs (by rw [ci_length]; omega)
 rw [ci_length] at *
 have Q := hide hq
 have S := hide hs
 have SA := hide hsa
 have QA := hide hqa
 obtain ⟨qa, qcap, rfl, hq1, hq2, _⟩ := hq w (World.grownBy.refl _ _)
 simp only [ci_length]
 rw [ci_length] at hq1
 clear hq hs hsa hqa
 go_enter Tryz.func164, Tryz.ntmps164
 go_wp2
 go_loopw [10] (fun vi wr => ∃ k : Nat, k ≤ q.length ∧ vi = .int .i64 k ∧ Own wr base (.slice (some ⟨g, 0, none⟩) s.length cap) (ci (amTo s q F 0 k)) ∧ w.grownBy wr (some g)) (fun vi _ => q.length - (intOf vi).toNat)
 case atStart => exact ⟨0, Nat.zero_le _, rfl, S.out, World.grownBy.refl _ _⟩
 case round =>
  obtain ⟨k, hk, rfl, ho, hgr⟩ := hrel
  by_cases hlt : k < q.length
  ·obtain ⟨qa', qcap', hv, _, _, h3⟩ := Q.out wr hgr
   have hv2 : qa' = qa := by simp at hv; exact hv.1.symm
   subst hv2
   clear hv
   rcases h3 with h3 | ⟨b, off, rfl, hbs, hc⟩
   ·have := congrArg List.length h3
    rw [ci_length] at this
    simp only [List.length_nil] at this; omega
   have hc1 := hc k (by rw [ci_length]; exact hlt)
   rw [ci_getD] at hc1
   clear hc
   obtain ⟨hc2, hc3⟩ := Own.at ho k (by rw [ci_length, amTo_length]; omega)
   rw [ci_getD] at hc3
   have i2 : (k : Int) < (s.length : Int) := by omega
   have i3 : (k : Int) < (q.length : Int) := by omega
   obtain ⟨z, hz⟩ : ∃ z, z = q.getD k 0 := ⟨_, rfl⟩
   rw [← hz] at hc1
   obtain ⟨y, hy⟩ : ∃ y, y = (amTo s q F 0 k).getD k 0 := ⟨_, rfl⟩
   rw [← hy] at hc3
   have hz256 : z < 256 := by rw [hz]; exact QA.out k
   have hy256 : y < 256 := by rw [hy]; exact amTo_lt SA.out (by omega) k _
   have Z := hide hz
   have Y := hide hy
   have G := hide hgr
   have O := hide ho
   clear hz hy hgr ho
   go_wp2
   go_region_with (go_at_call 190; refine (l1Mul_calls _ _ _ (by omega) (by omega) (by omega) (by omega)).mono ?_; rintro e w' ⟨rfl, rfl⟩)
   all_goals
    go_wp2
    go_roundw
    case rel =>
     refine ⟨k + 1, by omega, by go_num, ?_, ?_⟩
     ·have := (O.out.put k ((y ^^^ mul F z : Nat) : Int)).1
      rw [ci_set] at this
      rw [i64_xor _ _ (by omega) (by have := mul_lt (a := z) (b := F) (by omega); omega), mul_comm z F hz256 hf]
      have e : (amTo s q F 0 k).set k (y ^^^ mul F z) = amTo s q F 0 (k + 1) := by rw [Y.out, Z.out]; simp [amTo, xorAt]
      rw [← e]
      exact this.drew
     ·exact grownBy_drew (grownBy_trans G.out (O.out.put k _).2)
    case measure => simp [intOf]; omega
  ·obtain rfl : k = q.length := by omega
   have G := hide hgr
   have O := hide ho
   clear hgr ho
   go_wp2
   go_end0
   exact ⟨rfl, O.out, G.out⟩
end Gf
open Gf (ci nat mul inv amTo AllLt)
theorem RdM.rowAt {w : World} {a : Option Addr} {n cap : Nat} {m : List (List Int)} (h : RdM w (.slice a n cap) m) (i : Nat) (hi : i < m.length) :
    ∃ b off u, a = some ⟨b, off, none⟩ ∧ b < w.heap.size ∧ w.cell? ⟨b, off + i, none⟩ = some u ∧ Rd w u (m.getD i []) := by
 obtain ⟨a', cap', hv, _, _, h3⟩ := h
 simp only [Value.slice.injEq] at hv
 obtain ⟨rfl, rfl, rfl⟩ := hv
 rcases h3 with h3 | ⟨b, off, rfl, hlt, hc⟩
 ·subst h3; simp at hi
 ·obtain ⟨u, hu, hr⟩ := hc i hi
  exact ⟨b, off, u, rfl, hlt, hu, hr⟩
theorem below_drew' {B : Nat} {w w' : World} (h : Below B w w') : Below B w w'.drew := ⟨h.os, h.tape, h.output, h.size, h.block⟩
def gTo (m : List (List Int)) (d : List Int) (k : Nat) : List (List Int) := m.take k ++ List.replicate (m.length - k) d
theorem gTo_length (m : List (List Int)) (d : List Int) (k : Nat) (h : k ≤ m.length) : (gTo m d k).length = m.length := by simp [gTo]; omega
theorem gTo_get (m : List (List Int)) (d : List Int) (k : Nat) (h : k < m.length) : (gTo m d k).getD k [] = d := by
 unfold gTo
 rw [qg, List.getElem?_append_right (by simp; omega)]
 rw [List.length_take, Nat.min_eq_left (Nat.le_of_lt h), Nat.sub_self, List.getElem?_replicate, if_pos (by omega)]
 rfl
theorem gTo_step (m : List (List Int)) (d : List Int) (k : Nat) (h : k < m.length) : (gTo m d k).set k (m.getD k []) = gTo m d (k + 1) := by
 have e1 : (m.take k).length = k := by simp; omega
 unfold gTo
 rw [List.set_append_right _ _ (by omega), e1, Nat.sub_self]
 obtain ⟨j, hm⟩ : ∃ j, m.length - k = j + 1 := ⟨m.length - k - 1, by omega⟩
 have hm2 : m.length - (k + 1) = j := by omega
 rw [hm, hm2, List.replicate_succ, List.set_cons_zero, List.take_succ_eq_append_getElem h, List.append_assoc]
 simp only [qg, List.getElem?_eq_getElem h, Option.getD_some, List.singleton_append]
theorem gTo_end (m : List (List Int)) (d : List Int) : gTo m d m.length = m := by simp [gTo]
theorem gTo_zero (m : List (List Int)) (d : List Int) : gTo m d 0 = List.replicate m.length d := by simp [gTo]
theorem set_same {α : Type} (l : List α) (k : Nat) (d : α) (h : k < l.length) : l.set k (l.getD k d) = l := by
 rw [qg, List.getElem?_eq_getElem h, Option.getD_some]
 exact List.set_getElem_self h
def mulRow (b : List (List Nat)) (l : Nat) (r : List Nat) : Nat → List Nat
 | 0 => List.replicate l 0
 | k + 1 => amTo (mulRow b l r k) (b.getD k []) (r.getD k 0) 0 (b.getD k []).length
def mulM (a b : List (List Int)) : List (List Int) := a.map fun r => ci (mulRow (b.map nat) (b.getD 0 []).length (nat r) r.length)
theorem mulRow_length (b : List (List Nat)) (l : Nat) (r : List Nat) (k : Nat) : (mulRow b l r k).length = l := by
 induction k with
 | zero => simp [mulRow]
 | succ k ih => rw [mulRow, Gf.amTo_length, ih]
theorem mulRow_lt {b : List (List Nat)} {l : Nat} {r : List Nat} (hr : AllLt r) (k : Nat) : AllLt (mulRow b l r k) := by
 induction k with
 | zero => exact Gf.allLt_zeros l
 | succ k ih => exact Gf.amTo_lt ih (hr k) _
theorem mulM_length (a b : List (List Int)) : (mulM a b).length = a.length := by simp [mulM]
theorem mulM_get (a b : List (List Int)) (k : Nat) (h : k < a.length) : (mulM a b).getD k [] = ci (mulRow (b.map nat) (b.getD 0 []).length (nat (a.getD k [])) (a.getD k []).length) := by
 simp [mulM, qg, h]
theorem natM_get (b : List (List Int)) (k : Nat) : (b.map nat).getD k [] = nat (b.getD k []) := by
 simp only [qg, List.getElem?_map]
 cases b[k]? with
 | none => rfl
 | some x => rfl
def Vals (w : World) (v : Value) (us : List Value) : Prop :=
 ∃ a cap, v = .slice a us.length cap ∧ us.length ≤ cap ∧ (cap ≤ maxLen ∧ (a = none → cap = 0)) ∧ (∀ u ∈ us, u.oneCell' = true) ∧
  (us = [] ∨ ∃ b off, a = some ⟨b, off, none⟩ ∧ b < w.heap.size ∧ ∀ i, i < us.length → w.cell? ⟨b, off + i, none⟩ = some (us.getD i nilRow))
theorem Vals.below {w w' : World} {v : Value} {us : List Value} (h : Vals w v us) (hb : Below w.heap.size w w') : Vals w' v us := by
 obtain ⟨a, cap, rfl, h1, h2, h0, h3⟩ := h
 refine ⟨a, cap, rfl, h1, h2, h0, ?_⟩
 rcases h3 with h3 | ⟨b, off, rfl, hlt, hc⟩
 ·exact .inl h3
 ·exact .inr ⟨b, off, rfl, Nat.lt_of_lt_of_le hlt hb.size, fun i hi => (hb.cell (p := ⟨b, off + i, none⟩) hlt).trans (hc i hi)⟩
theorem MatV.vals {w : World} {lo hi : Nat} {v : Value} {vs : List Value} {m : List (List Int)} (h : MatV w lo hi v vs m) : Vals w v vs := by
 have h1 : ∀ u ∈ vs, u.oneCell' = true := by
  intro u hu
  obtain ⟨i, hi, rfl⟩ := List.mem_iff_getElem.1 hu
  obtain ⟨a, n, c, hs⟩ := (h.row i (by rw [← h.len]; exact hi)).shape
  rw [qg, List.getElem?_eq_getElem hi, Option.getD_some] at hs
  rw [hs]
  rfl
 rcases h.head.2 with ⟨rfl, hn⟩ | ⟨g, cap, cur, rfl, hb, hg, hc, hm, hs, ht⟩
 ·have : vs = [] := List.eq_nil_of_length_eq_zero (by rw [h.len]; exact hn)
  subst this
  exact ⟨none, 0, rfl, Nat.le_refl _, ⟨Nat.zero_le _, fun _ => rfl⟩, fun u hu => by simp at hu, .inl rfl⟩
 ·refine ⟨_, cap, by rw [h.len], by rw [h.len]; exact hc, ⟨hm, fun h => by cases h⟩, h1, .inr ⟨g, 0, rfl, (Array.getElem?_eq_some_iff.1 hg).1, fun i hi => ?_⟩⟩
  rw [Nat.zero_add]
  exact h.cell i (by rw [← h.len]; exact hi)
theorem full_V {w : World} {base g n : Nat} {e : TypeId} {xs : List Value} (h : w.ownsRow base e 1 (.slice (some ⟨g, 0, none⟩) n n) n xs) : w.heap[g]? = some (.cells xs.toArray e (0, 0)) := by
 rcases h.2 with ⟨h', _⟩ | ⟨g', cap', cur, h', _, hg, _, _, hs, ht⟩
 ·simp at h'
 ·simp only [Value.slice.injEq, Option.some.injEq, Addr.mk.injEq, and_true, true_and] at h'
  obtain ⟨rfl, rfl⟩ := h'
  rw [hg, ← ht, List.take_of_length_le (by rw [Array.length_toList, hs]; omega)]
theorem of_block_V {w : World} {base g : Nat} {e : TypeId} {zs : List Value} (h : w.heap[g]? = some (.cells zs.toArray e (0, 0))) (hb : base ≤ g) (hm : zs.length ≤ maxLen) :
    w.ownsRow base e 1 (.slice (some ⟨g, 0, none⟩) zs.length zs.length) zs.length zs :=
 ⟨by simp, .inr ⟨g, zs.length, _, rfl, hb, h, Nat.le_refl _, hm, by simp, List.take_of_length_le (by simp)⟩⟩
def splV (ws : List Value) (off : Nat) (zs : List Value) : List Value := ws.take off ++ (zs ++ ws.drop (off + zs.length))
theorem wpList_copy_vals {w : World} {ops : Array Oper} {rest : List Oper} {o : Oper} {a : Act} {Q : Exit → Act → World → Prop} (hgd : o.guard = none) (d s : Operand)
    (ho : o.op = .call { callee := .builtin .copy, args := #[d, s], argTypes := #[51, 51] })
    (base g N off dLen dCap : Nat) (u : Value) (ws cs : List Value) (hd : a.eval d = .slice (some ⟨g, off, none⟩) dLen dCap) (hs : a.eval s = u)
    (hown : w.ownsRow base 32 1 (.slice (some ⟨g, 0, none⟩) N N) N ws) (hr : Vals w u cs) (hdl : cs.length ≤ dLen) (hfit : off + cs.length ≤ N)
    (h : ∀ w', w'.ownsRow base 32 1 (.slice (some ⟨g, 0, none⟩) N N) N (splV ws off cs) → w.grownBy w' (some g) → wpList Tryz.prog ops Q rest (a.put o.dst (goInt cs.length)) w') : wpList Tryz.prog ops Q (o :: rest) a w := by
 obtain ⟨sp, cap, rfl, h1, h2, h0, h3⟩ := hr
 have hwl : ws.length = N := by have := hown.1; simpa using this
 have hg := full_V hown
 have hbg : base ≤ g := (World.ownsRow.lt hown g rfl).1
 have hmx : N ≤ maxLen := by
  rcases hown.2 with ⟨h', _⟩ | ⟨g', cap', cur, h', _, _, _, hm, _⟩
  ·simp at h'
  ·simp at h'; omega
 rcases h3 with h3 | ⟨b, so, rfl, hlt, hc⟩
 ·subst h3
  refine wpList_copy_nothing (w := w) hgd d s 51 51 ho 32 Tryz.underlying51 infoRowSize (some ⟨g, off, none⟩) sp dLen dCap 0 cap hd hs (by simp) ?_
  refine h w ?_ (World.grownBy.refl _ _)
  simp only [splV, List.nil_append, List.length_nil, Nat.add_zero, List.take_append_drop]
  exact hown
 ·refine wpList_copy_own (w := w) hgd d s 51 51 ho 32 Tryz.underlying51 infoRowSize g off dLen dCap ⟨b, so, none⟩ cs.length cap hd hs ws.toArray 32 hg cs (Nat.min_eq_left hdl).symm ?_ (by simp; omega) h0 ?_
  ·intro j y hj
   have hjl : j < cs.length := (List.getElem?_eq_some_iff.1 hj).1
   have hadd : (⟨b, so, none⟩ : Addr).add j = ⟨b, so + j, none⟩ := by unfold Addr.add; split <;> simp_all
   rw [hadd, hc j hjl, qg, hj]
   rfl
  ·have hl : (splV ws off cs).length = N := by simp [splV]; omega
   have := of_block_V (base := base) (setRow_heap w g _ (splV ws off cs).toArray 32 _ hg) hbg (by rw [hl]; exact hmx)
   rw [hl] at this
   exact h _ this ⟨rfl, rfl, rfl, by simp [World.setRow], fun k _ hk => setRow_other w g k _ (fun e => hk (by simp [e]))⟩
theorem getD_app {α : Type} (a b : List α) (d : α) (i : Nat) : (a ++ b).getD i d = if i < a.length then a.getD i d else b.getD (i - a.length) d := by
 simp only [qg]
 by_cases h : i < a.length
 ·rw [if_pos h, List.getElem?_append_left h]
 ·rw [if_neg h, List.getElem?_append_right (by omega)]
theorem MatV.cat {w w2 : World} {B lo hi lo' hi' : Nat} {v1 v2 v' : Value} {vs1 vs2 : List Value} {m1 m2 : List (List Int)} (h1 : MatV w lo hi v1 vs1 m1) (h2 : MatV w lo' hi' v2 vs2 m2) (hl1 : B ≤ lo) (hl2 : B ≤ lo') (hd : hi ≤ lo' ∨ hi' ≤ lo) (hh : hi' ≤ w.heap.size) (hh1 : hi ≤ w.heap.size)
    (blk : Option Nat) (hg : w.grownBy w2 blk) (hb1 : ∀ i, i < m1.length → (vs1.getD i nilRow).ownBlock = none ∨ (vs1.getD i nilRow).ownBlock ≠ blk) (hb2 : ∀ i, i < m2.length → (vs2.getD i nilRow).ownBlock = none ∨ (vs2.getD i nilRow).ownBlock ≠ blk)
    (ho : w2.ownsRow B 32 1 v' (m1.length + m2.length) (vs1 ++ vs2)) : MatV w2 B w2.heap.size v' (vs1 ++ vs2) (m1 ++ m2) := by
 have hs := hg.size
 have e1 := h1.len
 have e2 := h2.len
 refine ⟨by simp [e1, e2], by rw [List.length_append]; exact ho, ?_, fun k hk => (World.ownsRow.lt ho k hk).2, ?_, ?_⟩
 ·intro i hi
  rw [List.length_append] at hi
  rw [getD_app, getD_app, e1]
  split
  ·rename_i h; exact World.ownsRow.kept (Own.mono (h1.row i h) hl1) hg (hb1 i h)
  ·exact World.ownsRow.kept (Own.mono (h2.row (i - m1.length) (by omega)) hl2) hg (hb2 (i - m1.length) (by omega))
 ·intro i k hi hk
  rw [List.length_append] at hi
  rw [getD_app, e1] at hk
  split at hk
  ·rename_i h; have := h1.tops i k h hk; omega
  ·have := h2.tops (i - m1.length) k (by omega) hk; omega
 ·intro i j hi hj hij
  rw [List.length_append] at hi hj
  rw [getD_app, getD_app, e1]
  have cross : ∀ i j, i < m1.length → j < m2.length → ∀ x, (vs1.getD i nilRow).ownBlock = some x → (vs2.getD j nilRow).ownBlock = some x → False := by
   intro i j hi hj x h3 h4
   have q1 := h1.tops i x hi h3
   have q2 := (World.ownsRow.lt (h2.row j hj) x h4).1
   have q3 := h2.tops j x hj h4
   have q4 := (World.ownsRow.lt (h1.row i hi) x h3).1
   omega
  by_cases a : i < m1.length
  ·by_cases b : j < m1.length
   ·rw [if_pos a, if_pos b]; exact h1.apart i j a b hij
   ·rw [if_pos a, if_neg b]
    cases hu : (vs1.getD i nilRow).ownBlock with
    | none => exact .inl rfl
    | some x => exact .inr (fun e => cross i (j - m1.length) a (by omega) x hu e.symm)
  ·by_cases b : j < m1.length
   ·rw [if_neg a, if_pos b]
    cases hu : (vs2.getD (i - m1.length) nilRow).ownBlock with
    | none => exact .inl rfl
    | some x => exact .inr (fun e => cross j (i - m1.length) b (by omega) x e.symm hu)
   ·rw [if_neg a, if_neg b]; exact h2.apart _ _ (by omega) (by omega) (by omega)
theorem wpList_append_mat {w : World} {ops : Array Oper} {rest : List Oper} {o : Oper} {a : Act} {Q : Exit → Act → World → Prop} (hgd : o.guard = none) (s x : Operand)
    (ho : o.op = .call { callee := .builtin .append, args := #[s, x], argTypes := #[51, 51] })
    (B lo hi lo' hi' : Nat) (v1 v2 : Value) (vs1 vs2 : List Value) (m1 m2 : List (List Int)) (hs : a.eval s = v1) (hx : a.eval x = v2) (h1 : MatV w lo hi v1 vs1 m1) (h2 : MatV w lo' hi' v2 vs2 m2)
    (hl1 : B ≤ lo) (hl2 : B ≤ lo') (hd : hi ≤ lo' ∨ hi' ≤ lo) (hh : hi' ≤ w.heap.size) (hh1 : hi ≤ w.heap.size) (h0 : 0 < m2.length) (hn1 : m1.length ≤ 1048576) (hn2 : m2.length ≤ 1048576) (hB : B ≤ w.heap.size)
    (K : ∀ v' w', MatV w' B w'.heap.size v' (vs1 ++ vs2) (m1 ++ m2) → w.grownBy w' v1.ownBlock → wpList Tryz.prog ops Q rest (a.put o.dst v') w') : wpList Tryz.prog ops Q (o :: rest) a w := by
 obtain ⟨i0, hi0, hz0, hz1, hz2⟩ := info_parts infoRow
 obtain ⟨sp, cap, rfl, q1, q2, q0, q3⟩ := h2.vals
 have e2 := h2.len
 rcases q3 with q3 | ⟨b, off, rfl, hlt, hc⟩
 ·rw [q3] at e2; simp at e2; omega
 have hown : w.ownsRow B 32 1 v1 m1.length vs1 := by
  refine ⟨h1.head.1, ?_⟩
  rcases h1.head.2 with hn | ⟨g, cap, cur, rfl, hb', rest⟩
  ·exact .inl hn
  ·exact .inr ⟨g, cap, cur, rfl, Nat.le_trans hl1 hb', rest⟩
 refine wpList_append_own (w := w) hgd s x _ ho B _ i0 (.slice none 0 0) 1 24 Tryz.underlying51 hi0 hz0 hz1 hz2 rfl (by decide) v1 m1.length vs1 hs hown ⟨b, off, none⟩ vs2.length cap vs2 hx (by simp) ?_ q0 (by unfold maxLen; omega) (by omega) hB ?_
 ·intro j y hj
  have hjl : j < vs2.length := (List.getElem?_eq_some_iff.1 hj).1
  have hadd : (⟨b, off, none⟩ : Addr).add j = ⟨b, off + j, none⟩ := by unfold Addr.add; split <;> simp_all
  rw [hadd, hc j hjl, qg, hj]
  rfl
 ·intro v' w' ho' hg' _
  refine K v' w' (h1.cat h2 hl1 hl2 hd hh hh1 _ hg' (fun i hi => heads_apart' h1.head (h1.row i hi)) (fun i hi => heads_apart' h1.head (h2.row i hi)) ?_) hg'
  rw [e2] at ho'
  exact ho'
theorem splV_two (N : Nat) (fs bs : List Value) (h : N = fs.length + bs.length) : splV (splV (List.replicate N nilRow) 0 fs) fs.length bs = fs ++ bs := by
 subst h
 simp [splV]
theorem joinLists_calls (fv bv : Value) (fs bs : List Value) (w : World) (hf : Vals w fv fs) (hb : Vals w bv bs) (hn1 : fs.length ≤ 4096) (hn2 : bs.length ≤ 4096) (h0 : 0 < bs.length) :
    Calls Tryz.prog 176 #[fv, bv] w fun e w' => e = .returned (.slice (some ⟨w.heap.size, 0, none⟩) (fs.length + bs.length) (fs.length + bs.length)) ∧
     w'.ownsRow w.heap.size 32 1 (.slice (some ⟨w.heap.size, 0, none⟩) (fs.length + bs.length) (fs.length + bs.length)) (fs.length + bs.length) (fs ++ bs) ∧ w.grownBy w' none := by
 have F := hide hf
 have G := hide hb
 obtain ⟨fa, fcap, rfl, _⟩ := hf
 obtain ⟨ba, bcap, rfl, _⟩ := hb
 obtain ⟨N, hN⟩ : ∃ N, N = fs.length + bs.length := ⟨_, rfl⟩
 rw [← hN]
 have HN := hide hN
 have hN1 : fs.length < N := by omega
 have hN2 : N ≤ 8192 := by omega
 have HN3 : Hid (((fs.length : Int) + (bs.length : Int)) = (N : Int)) := by show ((fs.length : Int) + (bs.length : Int)) = (N : Int); omega
 have hN4 : Hid (fs.length + bs.length ≤ N) := by show fs.length + bs.length ≤ N; omega
 clear hN
 go_enter Tryz.func176, Tryz.ntmps176
 go_wp2_with (at_make; refine wpList_make_rows rfl _ _ rfl _ _ N rfl rfl HN3.out HN3.out (by omega) ?_)
 intro w0 hm0 hg0
 have ho0 : w0.ownsRow w.heap.size 32 1 (.slice (some ⟨w.heap.size, 0, none⟩) N N) N (List.replicate N nilRow) := by
  have := hm0.head
  rwa [List.length_replicate] at this
 have hb0 : Below w.heap.size w w0 := (Below.refl _ _).grown hg0 (Nat.le_refl _) (fun k h => by cases h)
 have O0 := hide ho0
 have B0 := hide hb0
 clear hm0 hg0 ho0 hb0
 go_wp2_with (refine wpList_copy_vals rfl (.tmp 12) (.tmp 13) rfl w.heap.size w.heap.size N 0 N N _ (List.replicate N nilRow) fs rfl rfl O0.out (F.out.below B0.out) (by omega) (by omega) ?_)
 intro w1 ho1 hg1
 have hb1 : Below w.heap.size w w1 := B0.out.grown hg1 B0.out.size (fun k hk => by cases hk; exact Nat.le_refl _)
 have O1 := hide ho1
 have B1 := hide hb1
 have i0 : (0 : Int) ≤ (fs.length : Int) := by omega
 have i1 : (fs.length : Int) ≤ (N : Int) := by omega
 have i3 : ¬ (N = fs.length) := by omega
 clear ho1 hg1 hb1
 go_wp2_with (refine wpList_copy_vals rfl (.tmp 18) (.tmp 19) rfl w.heap.size w.heap.size N fs.length (N - fs.length) (N - fs.length) _ (splV (List.replicate N nilRow) 0 fs) bs rfl rfl O1.out (G.out.below B1.out) (by have := hN4.out; omega) hN4.out ?_)
 intro w2 ho2 hg2
 have hb2 : Below w.heap.size w w2 := B1.out.grown hg2 B1.out.size (fun k hk => by cases hk; exact Nat.le_refl _)
 rw [splV_two N fs bs HN.out] at ho2
 have O2 := hide ho2
 have B2 := hide hb2
 clear ho2 hg2 hb2
 go_wp2
 go_ret
 exact ⟨rfl, O2.out, B2.out.os, B2.out.tape, B2.out.output, B2.out.size, fun k hk _ => B2.out.block k hk⟩
theorem contains_at {xs : List Int} {x : Int} {k : Nat} (hk : k < xs.length) (h : xs.getD k 0 = x) : xs.contains x = true := by
 rw [List.contains_eq_mem, decide_eq_true_eq, ← h, qg, List.getElem?_eq_getElem hk, Option.getD_some]
 exact List.getElem_mem hk
theorem contains_no {xs : List Int} {x : Int} (h : ∀ i, i < xs.length → xs.getD i 0 ≠ x) : xs.contains x = false := by
 rw [List.contains_eq_mem, decide_eq_false_iff_not]
 intro hm
 obtain ⟨i, hi, rfl⟩ := List.mem_iff_getElem.1 hm
 refine h i hi ?_
 rw [qg, List.getElem?_eq_getElem hi, Option.getD_some]
theorem l1HasM_calls (v : Value) (xs : List Int) (x : Int) (w : World) (h : Rd w v xs) :
    Calls Tryz.prog 148 #[v, .int .i64 x] w fun e w' => e = .returned (.bool (xs.contains x)) ∧ w = w' := by
 have R := hide h
 obtain ⟨a, cap, rfl, q1, q2, q3⟩ := h
 have hm : xs.length ≤ maxLen := by omega
 unfold maxLen at hm
 clear q1 q2 q3
 obtain ⟨r, hr⟩ : ∃ r, r = xs.contains x := ⟨_, rfl⟩
 rw [← hr]
 have HR := hide hr
 clear hr
 go_enter Tryz.func148, Tryz.ntmps148
 go_wp2
 go_loop [9] (fun vi => ∃ (k : Nat), k ≤ xs.length ∧ vi = .int .i64 k ∧ ∀ i, i < k → xs.getD i 0 ≠ x) (fun vi => xs.length - (intOf vi).toNat)
 case atStart => exact ⟨0, Nat.zero_le _, rfl, fun i hi => by omega⟩
 case round =>
  obtain ⟨k, hk, rfl, hall⟩ := hrel
  have A := hide hall
  clear hall
  by_cases hlt : k < xs.length
  ·have hlt' : (k : Int) < (xs.length : Int) := by omega
   obtain ⟨b, off, u, rfl, hc, hu⟩ := R.out.row k hlt
   obtain ⟨y, hy⟩ : ∃ y, y = xs.getD k 0 := ⟨_, rfl⟩
   rw [← hy] at hu
   subst hu
   have Y := hide hy
   clear hy
   by_cases e : y = x
   ·have e1 : (y == x) = true := by simp [e]
    have E := hide e
    clear e
    go_wp2
    go_ret
    exact ⟨Gf.ret_bool (by rw [HR.out, contains_at hlt (by rw [← Y.out, E.out])]), rfl⟩
   ·have e1 : (y == x) = false := by simp [e]
    have E := hide e
    clear e
    go_wp2
    go_round
    case rel =>
     refine ⟨k + 1, by omega, by go_num, fun i hi => ?_⟩
     by_cases ee : i = k
     ·subst ee; rw [← Y.out]; exact E.out
     ·exact A.out i (by omega)
    case measure => simp [intOf]; omega
  ·obtain rfl : k = xs.length := by omega
   go_wp2
   go_ret
   exact ⟨Gf.ret_bool (by rw [HR.out, contains_no A.out]), rfl⟩
theorem seenZero : Tryz.zeroCells221 = (List.replicate 256 (Value.bool false)).toArray := by kernel_rfl
theorem seenInfo : (Tryz.prog.info? 221).map (·.size) = some Tryz.zeroCells221.size := by kernel_rfl
theorem seenOne : Tryz.zeroCells221.all (·.oneCell') = true := by kernel_rfl
theorem seen_new (w : World) : (w.alloc (.cells Tryz.zeroCells221 221)).ownsRow w.heap.size 221 1 (.slice (some ⟨w.heap.size, 0, none⟩) 256 256) 256 (seenL []) := by
 have := of_block_V (w := w.alloc (.cells Tryz.zeroCells221 221)) (base := w.heap.size) (g := w.heap.size) (e := 221) (zs := List.replicate 256 (Value.bool false)) (by rw [← seenZero]; exact heap_alloc_last w _) (Nat.le_refl _) (by rw [List.length_replicate]; unfold maxLen; omega)
 rw [seenL_nil]
 rw [List.length_replicate] at this
 exact this
theorem flat_take (ls : List (List Int)) (i : Nat) (h : i < ls.length) : (ls.take (i + 1)).flatten = (ls.take i).flatten ++ ls.getD i [] := by
 rw [take_snocM ls [] i h, List.flatten_append]
 simp
theorem flat_no {ls : List (List Int)} {i k : Nat} (hi : i < ls.length) (h : unl ((ls.take i).flatten ++ (ls.getD i []).take k) = false) : unl ls.flatten = false := by
 have e : ls.flatten = ((ls.take i).flatten ++ (ls.getD i []).take k) ++ ((ls.getD i []).drop k ++ (ls.drop (i + 1)).flatten) := by
  conv => lhs; rw [← List.take_append_drop (i + 1) ls, List.flatten_append, flat_take ls i hi]
  rw [List.append_assoc, List.append_assoc, ← List.append_assoc ((ls.getD i []).take k), List.take_append_drop]
 rw [e]
 exact unl_app h _
theorem areUnlike_calls (v : Value) (ls : List (List Int)) (w : World) (h : RdM w v ls) (hn : ls.length ≤ 1048576) (hl : ∀ i, i < ls.length → (ls.getD i []).length ≤ 1048576) :
    Calls Tryz.prog 200 #[v] w fun e w' => e = .returned (.bool (unl ls.flatten)) ∧ Below w.heap.size w w' := by
 have R := hide h
 have HL := hide hl
 obtain ⟨a, cap, rfl, _⟩ := h
 clear hl
 obtain ⟨res, hres⟩ : ∃ r, r = unl ls.flatten := ⟨_, rfl⟩
 rw [← hres]
 have RES := hide hres
 clear hres
 have hsc := run_storeCells_new (P := Tryz.prog) w 221 Tryz.zeroCells221 Tryz.zeroCells221 seenInfo rfl seenOne
 have HSC := hide hsc
 clear hsc
 go_enter Tryz.func200, Tryz.ntmps200
 go_wp2
 rw [HSC.out]
 simp only [Result.andThen]
 rw [Oper.upon_skip]
 have O0 := hide (seen_new w)
 have B0 := hide ((Below.refl w.heap.size w).alloc (Nat.le_refl _) (.cells Tryz.zeroCells221 221))
 obtain ⟨w0, hw0⟩ : ∃ w0, w0 = w.alloc (.cells Tryz.zeroCells221 221) := ⟨_, rfl⟩
 rw [← hw0] at O0 B0 ⊢
 clear hw0 HSC
 go_wp2
 go_loopw [11] (fun vi wr => ∃ (i : Nat), i ≤ ls.length ∧ vi = .int .i64 i ∧ unl (ls.take i).flatten = true ∧ wr.ownsRow w.heap.size 221 1 (.slice (some ⟨w.heap.size, 0, none⟩) 256 256) 256 (seenL (ls.take i).flatten) ∧ Below w.heap.size w wr) (fun vi _ => ls.length - (intOf vi).toNat)
 case atStart => exact ⟨0, Nat.zero_le _, rfl, unl_nil, O0.out, B0.out⟩
 case round =>
  obtain ⟨i, hi, rfl, hu, ho, hb⟩ := hrel
  have U := hide hu
  have O := hide ho
  have B := hide hb
  clear hu ho hb
  by_cases hlt : i < ls.length
  ·have hlt' : (i : Int) < (ls.length : Int) := by omega
   obtain ⟨b, off, uv, rfl, hbl, hc, hrd⟩ := R.out.rowAt i hlt
   have hc1 : wr.cell? ⟨b, off + i, none⟩ = some uv := (B.out.cell (p := ⟨b, off + i, none⟩) hbl).trans hc
   obtain ⟨r, hr⟩ : ∃ r, r = ls.getD i [] := ⟨_, rfl⟩
   have hrl := HL.out i hlt
   have hft := flat_take ls i hlt
   rw [← hr] at hrd hrl hft
   obtain ⟨pre, hpre⟩ : ∃ p, p = (ls.take i).flatten := ⟨_, rfl⟩
   have hno : ∀ k, unl (pre ++ r.take k) = false → res = false := fun k hk => by
    rw [RES.out]
    exact flat_no hlt (k := k) (by rw [← hr, ← hpre]; exact hk)
   rw [← hpre] at hft
   have hu1 := U.out
   have ho1 := O.out
   rw [← hpre] at hu1 ho1
   have RD := hide hrd
   have NO := hide hno
   have FT := hide hft
   have U1 := hide hu1
   have O1 := hide ho1
   obtain ⟨ua, uc, rfl, _⟩ := hrd
   clear hc hr hft hpre hno hu1 ho1 U O
   go_wp2
   go_loopw [17] (fun vi wr2 => ∃ (k : Nat), k ≤ r.length ∧ vi = .int .i64 k ∧ unl (pre ++ r.take k) = true ∧ wr2.ownsRow w.heap.size 221 1 (.slice (some ⟨w.heap.size, 0, none⟩) 256 256) 256 (seenL (pre ++ r.take k)) ∧ Below w.heap.size w wr2) (fun vi _ => r.length - (intOf vi).toNat)
   case atStart =>
    refine ⟨0, Nat.zero_le _, rfl, ?_, ?_, B.out⟩
    ·rw [List.take_zero, List.append_nil]; exact U1.out
    ·rw [List.take_zero, List.append_nil]; exact O1.out
   case round =>
    obtain ⟨k, hk, rfl, hu2, ho2, hb2⟩ := hrel
    have U2 := hide hu2
    have O2 := hide ho2
    have B2 := hide hb2
    clear hu2 ho2 hb2
    by_cases hltk : k < r.length
    ·have hltk' : (k : Int) < (r.length : Int) := by omega
     obtain ⟨rb, roff, ru, rfl, hrc, hru⟩ := (RD.out.below B2.out).row k hltk
     obtain ⟨x, hx⟩ : ∃ x, x = r.getD k 0 := ⟨_, rfl⟩
     rw [← hx] at hru
     subst hru
     have hsn : unl (pre ++ r.take (k + 1)) = (unl (pre ++ r.take k) && (Gf.elOk x && !(pre ++ r.take k).contains x)) := by
      rw [take_snocM r 0 k hltk, ← hx, ← List.append_assoc, unl_snoc]
     have htk : pre ++ r.take (k + 1) = (pre ++ r.take k) ++ [x] := by rw [take_snocM r 0 k hltk, ← hx, List.append_assoc]
     rw [U2.out, Bool.true_and] at hsn
     have SN := hide hsn
     have TK := hide htk
     clear hsn htk hx
     cases hel : Gf.elOk x with
     | false =>
      have EL := hide hel
      have hf : res = false := NO.out (k + 1) (by rw [SN.out, EL.out]; rfl)
      have F := hide hf
      clear hel hf
      go_wp2_with fail
      refine (Gf.isE_calls x _).mono ?_
      rw [EL.out]
      rintro e w' ⟨rfl, rfl⟩
      go_wp2
      go_ret
      exact ⟨Gf.ret_bool F.out.symm, B2.out⟩
     | true =>
      have EL := hide hel
      obtain ⟨hx0, hx1⟩ := elOk_facts hel
      obtain ⟨n, rfl⟩ := Int.eq_ofNat_of_zero_le hx0
      have hn256 : n < 256 := by omega
      have hcell := World.ownsRow.cellAt O2.out n (by omega)
      rw [seenL_get _ n hn256] at hcell
      have hfr : wr.frozen? ⟨w.heap.size, n, none⟩ = false := World.ownsRow.frozenAt O2.out n
      have ST := hide (World.ownsRow.stored O2.out n (.bool true))
      obtain ⟨c, hcc⟩ : ∃ c, c = (pre ++ r.take k).contains (n : Int) := ⟨_, rfl⟩
      rw [← hcc] at hcell
      have CC := hide hcc
      have i0 : (0 : Int) ≤ (n : Int) := by omega
      have i1 : (n : Int) < 256 := by omega
      clear hel hcc hx0 hx1
      cases c with
      | true =>
       have hf : res = false := NO.out (k + 1) (by rw [SN.out, EL.out, ← CC.out]; rfl)
       have F := hide hf
       clear hf
       go_wp2_with fail
       refine (Gf.isE_calls (n : Int) _).mono ?_
       rw [EL.out]
       rintro e w' ⟨rfl, rfl⟩
       go_wp2
       go_ret
       exact ⟨Gf.ret_bool F.out.symm, B2.out⟩
      | false =>
       go_wp2_with fail
       refine (Gf.isE_calls (n : Int) _).mono ?_
       rw [EL.out]
       rintro e w' ⟨rfl, rfl⟩
       go_wp2
       go_roundw
       case rel =>
        refine ⟨k + 1, by omega, by go_num, ?_, ?_, B2.out.setCell (Nat.le_refl _) _⟩
        ·rw [SN.out, EL.out, ← CC.out]; rfl
        ·have := ST.out.1
         rw [seenL_set _ n hn256, ← TK.out] at this
         exact this
       case measure => simp [intOf]; omega
    ·obtain rfl : k = r.length := by omega
     go_wp2
     go_roundw
     case rel =>
      have h1 := U2.out
      have h2 := O2.out
      rw [List.take_of_length_le (Nat.le_refl _), ← FT.out] at h1 h2
      exact ⟨i + 1, by omega, by go_num, h1, h2, B2.out⟩
     case measure => simp [intOf]; omega
  ·obtain rfl : i = ls.length := by omega
   have hf : res = true := by
    have := U.out
    rw [List.take_of_length_le (Nat.le_refl _)] at this
    rw [RES.out, this]
   have F := hide hf
   clear hf
   go_wp2
   go_ret
   exact ⟨Gf.ret_bool F.out.symm, B.out⟩
end Go.Proofs.YthdbacihhmilbaaGreatDoor

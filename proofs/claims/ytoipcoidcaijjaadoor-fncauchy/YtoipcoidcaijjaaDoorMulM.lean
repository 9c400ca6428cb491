/-
  Products of matrices: the program's function and its model's, call by call. The program's table of rests must hold its seven numbers where the program's own functions are called.
-/
import Derived.Test.YtoipcoidcaijjaaDoorRowOps
namespace Go.Proofs.YtoipcoidcaijjaaDoor
open Go.RowKit
open Gf (ci nat mul inv amTo AllLt)

theorem RdM.rowAt {w : World} {a : Option Addr} {n cap : Nat} {m : List (List Int)} (h : RdM w (.slice a n cap) m) (i : Nat) (hi : i < m.length) :
    ∃ b off u, a = some ⟨b, off, none⟩ ∧ b < w.heap.size ∧ w.cell? ⟨b, off + i, none⟩ = some u ∧ Rd w u (m.getD i []) := by
  obtain ⟨a', cap', hv, _, _, h3⟩ := h
  simp only [Value.slice.injEq] at hv
  obtain ⟨rfl, rfl, rfl⟩ := hv
  rcases h3 with h3 | ⟨b, off, rfl, hlt, hc⟩
  · subst h3; simp at hi
  · obtain ⟨u, hu, hr⟩ := hc i hi
    exact ⟨b, off, u, rfl, hlt, hu, hr⟩
theorem below_drew' {B : Nat} {w w' : World} (h : Below B w w') : Below B w w'.drew := ⟨h.os, h.tape, h.output, h.size, h.block⟩
/-- The first k rows of m; d in the places of the others. -/
def gTo (m : List (List Int)) (d : List Int) (k : Nat) : List (List Int) := m.take k ++ List.replicate (m.length - k) d
theorem gTo_length (m : List (List Int)) (d : List Int) (k : Nat) (h : k ≤ m.length) : (gTo m d k).length = m.length := by simp [gTo]; omega
theorem gTo_get (m : List (List Int)) (d : List Int) (k : Nat) (h : k < m.length) : (gTo m d k).getD k [] = d := by
  unfold gTo
  rw [List.getD_eq_getElem?_getD, List.getElem?_append_right (by simp; omega)]
  rw [List.length_take, Nat.min_eq_left (Nat.le_of_lt h), Nat.sub_self, List.getElem?_replicate, if_pos (by omega)]
  rfl
theorem gTo_step (m : List (List Int)) (d : List Int) (k : Nat) (h : k < m.length) : (gTo m d k).set k (m.getD k []) = gTo m d (k + 1) := by
  have e1 : (m.take k).length = k := by simp; omega
  unfold gTo
  rw [List.set_append_right _ _ (by omega), e1, Nat.sub_self]
  obtain ⟨j, hm⟩ : ∃ j, m.length - k = j + 1 := ⟨m.length - k - 1, by omega⟩
  have hm2 : m.length - (k + 1) = j := by omega
  rw [hm, hm2, List.replicate_succ, List.set_cons_zero, List.take_succ_eq_append_getElem h, List.append_assoc]
  simp only [List.getD_eq_getElem?_getD, List.getElem?_eq_getElem h, Option.getD_some, List.singleton_append]
theorem gTo_end (m : List (List Int)) (d : List Int) : gTo m d m.length = m := by simp [gTo]
theorem gTo_zero (m : List (List Int)) (d : List Int) : gTo m d 0 = List.replicate m.length d := by simp [gTo]
theorem set_same {α : Type} (l : List α) (k : Nat) (d : α) (h : k < l.length) : l.set k (l.getD k d) = l := by
  rw [List.getD_eq_getElem?_getD, List.getElem?_eq_getElem h, Option.getD_some]
  exact List.set_getElem_self h

def mulRow (b : List (List Nat)) (l : Nat) (r : List Nat) : Nat → List Nat
  | 0 => List.replicate l 0
  | k + 1 => amTo (mulRow b l r k) (b.getD k []) (r.getD k 0) 0 (b.getD k []).length
def mulM (a b : List (List Int)) : List (List Int) := a.map fun r => ci (mulRow (b.map nat) (b.getD 0 []).length (nat r) r.length)
theorem mulRow_length (b : List (List Nat)) (l : Nat) (r : List Nat) (k : Nat) : (mulRow b l r k).length = l := by
  induction k with
  | zero => simp [mulRow]
  | succ k ih => rw [mulRow, Gf.amTo_length, ih]
theorem mulRow_lt {b : List (List Nat)} {l : Nat} {r : List Nat} (hr : AllLt r) (k : Nat) : AllLt (mulRow b l r k) := by
  induction k with
  | zero => exact Gf.allLt_zeros l
  | succ k ih => exact Gf.amTo_lt ih (hr k) _
theorem mulM_length (a b : List (List Int)) : (mulM a b).length = a.length := by simp [mulM]
theorem mulM_get (a b : List (List Int)) (k : Nat) (h : k < a.length) : (mulM a b).getD k [] = ci (mulRow (b.map nat) (b.getD 0 []).length (nat (a.getD k [])) (a.getD k []).length) := by
  simp [mulM, List.getD_eq_getElem?_getD, h]
theorem natM_get (b : List (List Int)) (k : Nat) : (b.map nat).getD k [] = nat (b.getD k []) := by
  simp only [List.getD_eq_getElem?_getD, List.getElem?_map]
  cases b[k]? with
  | none => rfl
  | some x => rfl

set_option maxRecDepth 100000 in
set_option maxHeartbeats 1600000 in
theorem l2Mul_calls (av bv : Value) (a b : List (List Int)) (w : World) (ha : RdM w av a) (hb : RdM w bv b) (hga : goodM a = true) (hgb : goodM b = true) (hab : (a.getD 0 []).length = b.length) :
    Calls Tryd.prog 144 #[av, bv] w fun e w' => ∃ v', e = .returned v' ∧ Mat w' w.heap.size w'.heap.size v' (mulM a b) ∧ Below w.heap.size w w' := by
  have RA := hide ha
  have RB := hide hb
  have FA := hide (goodM_rows hga)
  have FB := hide (goodM_rows hgb)
  obtain ⟨aa, acap, rfl, _⟩ := ha
  obtain ⟨ba, bcap, rfl, _⟩ := hb
  have hal : 1 ≤ a.length := FA.out.1
  have hal8 : a.length ≤ 8 := FA.out.2.1
  have hbl : 1 ≤ b.length := FB.out.1
  have hbl8 : b.length ≤ 8 := FB.out.2.1
  obtain ⟨l, hl⟩ : ∃ l, l = (b.getD 0 []).length := ⟨_, rfl⟩
  have hl1 : 1 ≤ l := by rw [hl]; exact FB.out.2.2.1
  have hl8 : l ≤ 8 := by rw [hl]; exact FB.out.2.2.2.1
  have HL := hide hl
  have HAB := hide hab
  clear hl hga hgb hab
  obtain ⟨P, hP⟩ : ∃ P, P = mulM a b := ⟨_, rfl⟩
  rw [← hP]
  have hPl : P.length = a.length := by rw [hP, mulM_length]
  have hPg : ∀ k, k < a.length → P.getD k [] = ci (mulRow (b.map nat) l (nat (a.getD k [])) (a.getD k []).length) := fun k hk => by rw [hP, mulM_get _ _ _ hk, HL.out]
  have PL := hide hPl
  have PG := hide hPg
  clear hP hPl hPg
  go_enter Tryd.func144, Tryd.ntmps144
  go_wp2
  go_loopw [5, 15] (fun vo vi wr => ∃ (k : Nat) (vs : List Value), k ≤ a.length ∧ vi = .int .i64 k ∧ MatV wr w.heap.size wr.heap.size vo vs (P.take k) ∧ Below w.heap.size w wr) (fun _ vi _ => a.length - (intOf vi).toNat)
  case atStart =>
    obtain ⟨vs, hv⟩ := Mat.nil w w.heap.size w.heap.size
    exact ⟨0, vs, Nat.zero_le _, rfl, hv, Below.refl _ _⟩
  case round =>
    obtain ⟨k, vs, hk, rfl, hM, hB⟩ := hrel
    have M := hide hM
    have B := hide hB
    clear hM hB
    by_cases hlt : k < a.length
    · have hlt' : (k : Int) < (a.length : Int) := by omega
      have hbl' : (0 : Int) < (b.length : Int) := by omega
      obtain ⟨ab, aoff, au, rfl, hac, hau⟩ := (RA.out.below B.out).row k hlt
      obtain ⟨r, hr⟩ : ∃ r, r = a.getD k [] := ⟨_, rfl⟩
      rw [← hr] at hau
      have hrl : r.length = b.length := by rw [hr, (FA.out.2.2.2.2 k hlt).1, HAB.out]
      have hre : r.all Gf.elOk = true := by rw [hr]; exact (FA.out.2.2.2.2 k hlt).2
      have hpg := PG.out k hlt
      rw [← hr] at hpg
      have PK := hide hpg
      have RE := hide hre
      have AU := hide hau
      obtain ⟨aua, auc, hauv, _⟩ := hau
      rw [hrl] at hauv
      subst hauv
      have RL := hide hrl
      clear hr hpg hre hrl
      obtain ⟨bb, boff, bu0, rfl, hbc0, hbu0⟩ := (RB.out.below B.out).row 0 (by omega)
      rw [Nat.add_zero] at hbc0
      obtain ⟨bua, bucap, hbu, _⟩ := hbu0
      rw [← HL.out] at hbu
      subst hbu
      go_wp2_with (at_make; refine wpList_make_ints rfl _ _ rfl wr.heap.size _ _ l rfl rfl (by omega) (by omega) (by omega) (Nat.le_refl _) ?_)
      intro w1 hx hg1
      have hb1 : Below wr.heap.size wr w1 := (Below.refl _ _).grown hg1 (Nat.le_refl _) (fun k h => by cases h)
      rw [← Gf.ci_zeros] at hx
      obtain ⟨wra, hwra⟩ : ∃ wra, wra = wr := ⟨_, rfl⟩
      subst hwra
      have O1 := hide hx
      have B1 := hide hb1
      clear hx hg1 hb1 hbc0
      go_wp2
      go_loopw [26] (fun vi wr2 => ∃ (j : Nat), j ≤ b.length ∧ vi = .int .i64 j ∧ Own wr2 wra.heap.size (.slice (some ⟨wra.heap.size, 0, none⟩) l l) (ci (mulRow (b.map nat) l (nat r) j)) ∧ Below wra.heap.size wra wr2) (fun vi _ => b.length - (intOf vi).toNat)
      case atStart => exact ⟨0, Nat.zero_le _, rfl, O1.out, B1.out⟩
      case round =>
        obtain ⟨j, hj, rfl, ho, hB2⟩ := hrel
        have B2 := hide hB2
        have BW := hide (B.out.trans (hB2.mono B.out.size))
        have O := hide ho
        clear hB2 ho
        by_cases hltj : j < b.length
        · have hltj' : (j : Int) < (b.length : Int) := by omega
          obtain ⟨bb', boff', bu, hbb', hbbl, hbc0, hbu⟩ := RB.out.rowAt j hltj
          simp only [Option.some.injEq, Addr.mk.injEq, and_true] at hbb'
          obtain ⟨rfl, rfl⟩ := hbb'
          have hbc : wr.cell? ⟨bb, boff + j, none⟩ = some bu := (BW.out.cell (p := ⟨bb, boff + j, none⟩) hbbl).trans hbc0
          have BW0 := hide B.out
          clear hbc0
          obtain ⟨q, hq⟩ : ∃ q, q = nat (b.getD j []) := ⟨_, rfl⟩
          have hqe := (FB.out.2.2.2.2 j hltj).2
          have hql : q.length = l := by rw [hq, Gf.nat_length, (FB.out.2.2.2.2 j hltj).1, HL.out]
          have hqlt : AllLt q := by rw [hq]; exact Gf.nat_lt hqe
          rw [← Gf.ci_nat hqe, ← hq] at hbu
          have hq2 : (b.map nat).getD j [] = q := by rw [natM_get, hq]
          obtain ⟨rb, roff, ru, rfl, hrc, hru⟩ := (AU.out.below B2.out).row j (by have := RL.out; omega)
          obtain ⟨x, hx⟩ : ∃ x, x = (nat r).getD j 0 := ⟨_, rfl⟩
          have hx2 : r.getD j 0 = ((x : Nat) : Int) := by
            have := Gf.ci_getD (nat r) j
            rw [Gf.ci_nat RE.out] at this
            rw [this, hx]
          rw [hx2] at hru
          subst hru
          have hx256 : x < 256 := by rw [hx]; exact Gf.nat_lt RE.out j
          obtain ⟨s, hs⟩ : ∃ s, s = mulRow (b.map nat) l (nat r) j := ⟨_, rfl⟩
          have hsl : s.length = l := by rw [hs, mulRow_length]
          have hslt : AllLt s := by rw [hs]; exact mulRow_lt (Gf.nat_lt RE.out) j
          have hnext : mulRow (b.map nat) l (nat r) (j + 1) = amTo s q x 0 q.length := by rw [mulRow, hq2, ← hs, ← hx]
          have ho := O.out
          rw [← hs] at ho
          have O2 := hide ho
          have NX := hide hnext
          have BU := hide hbu
          have QL := hide hql
          have QLT := hide hqlt
          have SL := hide hsl
          have SLT := hide hslt
          obtain ⟨bua2, buc2, hbuv, _⟩ := hbu
          rw [Gf.ci_length, hql] at hbuv
          subst hbuv
          clear ho hnext hql hqlt hsl hslt hq hqe hq2 hx hx2 hs
          go_wp2
          go_loopw [36] (fun vi wr3 => ∃ (i : Nat), i ≤ l ∧ vi = .int .i64 i ∧ Own wr3 wra.heap.size (.slice (some ⟨wra.heap.size, 0, none⟩) l l) (ci (amTo s q x 0 i)) ∧ Below wra.heap.size wra wr3) (fun vi _ => l - (intOf vi).toNat)
          case atStart => exact ⟨0, Nat.zero_le _, rfl, O2.out, B2.out⟩
          case round =>
            obtain ⟨i, hi, rfl, ho3, hB3⟩ := hrel
            by_cases hlti : i < l
            · have hlti' : (i : Int) < (l : Int) := by omega
              have i0 : (0 : Int) ≤ (i : Int) := by omega
              obtain ⟨b3, off3, u3, hb3, hc1, hu3⟩ := (BU.out.below (BW0.out.trans (hB3.mono BW0.out.size))).row i (by rw [Gf.ci_length, QL.out]; exact hlti)
              subst hb3
              rw [Gf.ci_getD] at hu3
              subst hu3
              obtain ⟨hc2, hc3⟩ := Own.at ho3 i (by rw [Gf.ci_length, Gf.amTo_length, SL.out]; exact hlti)
              rw [Gf.ci_getD] at hc3
              obtain ⟨z, hz⟩ : ∃ z, z = q.getD i 0 := ⟨_, rfl⟩
              rw [← hz] at hc1
              obtain ⟨y, hy⟩ : ∃ y, y = (amTo s q x 0 i).getD i 0 := ⟨_, rfl⟩
              rw [← hy] at hc3
              have hz256 : z < 256 := by rw [hz]; exact QLT.out i
              have hy256 : y < 256 := by rw [hy]; exact Gf.amTo_lt SLT.out hx256 i _
              have hset : (amTo s q x 0 i).set i (y ^^^ mul x z) = amTo s q x 0 (i + 1) := by rw [hy, hz]; simp [amTo, Gf.xorAt]
              have HS := hide hset
              have O3 := hide ho3
              have B3 := hide hB3
              clear hz hy hset ho3 hB3
              go_wp2
              go_region_with (go_at_call 84; refine (Gf.l1Mul_calls _ _ _ (by omega) (by omega) (by omega) (by omega)).mono ?_; rintro e w' ⟨rfl, rfl⟩)
              all_goals
                go_wp2
                go_roundw
                case rel =>
                  refine ⟨i + 1, by omega, by go_num, ?_, ?_⟩
                  · have := (O3.out.put i ((y ^^^ mul x z : Nat) : Int)).1
                    rw [Gf.ci_set, HS.out] at this
                    rw [Gf.i64_xor _ _ (by omega) (by have := Gf.mul_lt (a := x) (b := z) (by omega); omega)]
                    exact this.drew
                  · exact below_drew' (B3.out.setCell (Nat.le_refl _) _)
                case measure => simp [intOf]; omega
            · obtain rfl : i = l := by omega
              have O3 := hide ho3
              have B3 := hide hB3
              clear ho3 hB3
              go_wp2
              go_roundw
              case rel =>
                refine ⟨j + 1, by omega, by go_num, ?_, B3.out⟩
                rw [NX.out, QL.out]
                exact O3.out
              case measure => simp [intOf]; omega
        · obtain rfl : j = b.length := by omega
          go_wp2_with (at_builtin; refine wpList_append_row rfl _ _ rfl w.heap.size wra.heap.size _ vs (P.take k) rfl M.out (B2.out.alloc B2.out.size _) _ _ (O.out.below ((Below.refl _ _).alloc (Nat.le_refl _) _)) (Nat.le_refl _) B.out.size _ rfl (World.cell?_alloc_at _ _ _ _ (by simp)) (by simp; omega) ?_)
          intro v2 w2 hM2 hB4
          have M2 := hide hM2
          have B4 := hide hB4
          clear hM2 hB4
          go_wp2
          go_roundw
          case rel =>
            refine ⟨k + 1, vs ++ [.slice (some ⟨wra.heap.size, 0, none⟩) l l], by omega, by go_num, ?_, B.out.trans B4.out⟩
            have := M2.out
            rw [← RL.out, ← PK.out] at this
            have e : P.take k ++ [P.getD k []] = P.take (k + 1) := by
              have hl : k < P.length := by rw [PL.out]; exact hlt
              rw [List.take_succ_eq_append_getElem hl, List.getD_eq_getElem?_getD, List.getElem?_eq_getElem hl, Option.getD_some]
            rw [e] at this
            exact this
          case measure => simp [intOf]; omega
    · obtain rfl : k = a.length := by omega
      go_wp2
      go_ret
      have hm := M.out
      rw [List.take_of_length_le (by rw [PL.out]; exact Nat.le_refl _)] at hm
      exact ⟨_, rfl, ⟨_, hm⟩, B.out⟩
end Go.Proofs.YtoipcoidcaijjaaDoor

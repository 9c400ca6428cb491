/-
  The program's product of rows that fit, in one call: however many rows, however long. The contract says what it asks.
-/
import Derived.Test.YtiojipicincgfaaDoorMulM
namespace Go.Proofs.YtiojipicincgfaaDoor
open Go.RowKit
open Gf (ci nat amTo AllLt)

set_option maxRecDepth 100000 in
theorem addMultiple_nil (sv qv : Value) (f a : Int) (w : World) (hq : Rd w qv []) :
    Calls Tryd.prog 78 #[sv, qv, .int .i64 f, .int .i64 a] w fun e w' => e = .returned (.tuple #[]) ∧ w = w' := by
  obtain ⟨x, cap, rfl, h1, h2, h3⟩ := hq
  clear h1 h2 h3
  go_enter Tryd.func78, Tryd.ntmps78
  go_wp2
  go_loop [12] (fun vi => vi = .int .i64 0) (fun _ => 0)
  case atStart => rfl
  case round =>
    subst hrel
    go_wp2
    go_end0
    exact ⟨rfl, rfl⟩
theorem addMultiple_any (sv qv : Value) (s q : List Nat) (f a : Int) (base : Nat) (w : World) (hT : ∀ w', w.grownBy w' sv.ownBlock → Gf.Tab w') (hs : Own w base sv (ci s)) (hq : ∀ w', w.grownBy w' sv.ownBlock → Rd w' qv (ci q))
    (hf0 : 0 ≤ f) (hf : f < 256) (ha0 : 0 ≤ a) (hfit : a + q.length ≤ s.length) (hsl : s.length ≤ 1048576) (hsa : AllLt s) (hqa : AllLt q) :
    Calls Tryd.prog 78 #[sv, qv, .int .i64 f, .int .i64 a] w fun e w' => e = .returned (.tuple #[]) ∧ Own w' base sv (ci (amTo s q f.toNat a.toNat q.length)) ∧ w.grownBy w' sv.ownBlock := by
  by_cases h0 : 0 < s.length
  · exact Gf.addMultiple_calls sv qv s q f a base w hT hs hq hf0 hf ha0 hfit hsl hsa hqa h0
  · have hq0 : q = [] := List.eq_nil_of_length_eq_zero (by omega)
    subst hq0
    refine (addMultiple_nil sv qv f a w (hq w (World.grownBy.refl _ _))).mono ?_
    rintro e w' ⟨rfl, rfl⟩
    exact ⟨rfl, hs, World.grownBy.refl _ _⟩
structure Fit (a b : List (List Int)) (l : Nat) : Prop where
  a1 : 1 ≤ a.length
  aN : a.length ≤ 4096
  b1 : 1 ≤ b.length
  bN : b.length ≤ 4096
  lN : l ≤ 4096
  ar : ∀ i, i < a.length → (a.getD i []).length = b.length ∧ (a.getD i []).all Gf.elOk = true
  br : ∀ i, i < b.length → (b.getD i []).length = l ∧ (b.getD i []).all Gf.elOk = true

set_option maxRecDepth 100000 in
set_option maxHeartbeats 1600000 in
theorem productOf_calls (av bv : Value) (a b : List (List Int)) (l : Nat) (w : World) (hT : Gf.Tab w) (ha : RdM w av a) (hb : RdM w bv b) (hf : Fit a b l) :
    Calls Tryd.prog 60 #[av, bv] w fun e w' => ∃ v', e = .returned v' ∧ Mat w' w.heap.size w'.heap.size v' (mulM a b) ∧ Below w.heap.size w w' := by
  have RA := hide ha
  have RB := hide hb
  have T := hide hT
  have FI := hide hf
  obtain ⟨aa, acap, rfl, _⟩ := ha
  obtain ⟨ba, bcap, rfl, _⟩ := hb
  have hal : 1 ≤ a.length := hf.a1
  have hal8 : a.length ≤ 4096 := hf.aN
  have hbl : 1 ≤ b.length := hf.b1
  have hbl8 : b.length ≤ 4096 := hf.bN
  have hl8 : l ≤ 4096 := hf.lN
  have hl : l = (b.getD 0 []).length := (hf.br 0 (by omega)).1.symm
  have HL := hide hl
  clear hT hl hf
  obtain ⟨bb, boff, bu0, rfl, hbb0, hbc0, hbu0⟩ := RB.out.rowAt 0 (by omega)
  rw [Nat.add_zero] at hbc0
  obtain ⟨bua, bucap, hbu, _⟩ := hbu0
  rw [← HL.out] at hbu
  subst hbu
  obtain ⟨P, hP⟩ : ∃ P, P = mulM a b := ⟨_, rfl⟩
  rw [← hP]
  have hPl : P.length = a.length := by rw [hP, mulM_length]
  have hPg : ∀ k, k < a.length → P.getD k [] = ci (mulRow (b.map nat) l (nat (a.getD k [])) (a.getD k []).length) := fun k hk => by rw [hP, mulM_get _ _ _ hk, HL.out]
  have PL := hide hPl
  have PG := hide hPg
  clear hP hPl hPg
  go_enter Tryd.func60, Tryd.ntmps60
  go_wp2_with fail
  refine (newRows_calls a.length l _ (by omega) (by omega)).mono ?_
  rintro e w3 ⟨v3, rfl, ⟨vs, hm⟩, hb3⟩
  rw [← PL.out, ← gTo_zero] at hm
  obtain ⟨g, cap, hv3, hg1, hg2, hg3, hg4⟩ := hm.open (by rw [gTo_length _ _ _ (Nat.zero_le _), PL.out]; omega)
  rw [gTo_length _ _ _ (Nat.zero_le _), PL.out] at hv3 hg3
  subst hv3
  have M3 := hide hm
  have B3 := hide hb3
  have S2 : 1 < w.heap.size := Gf.tab_pos T.out
  clear hm hb3 hbc0
  go_wp2
  go_loopw [19] (fun vi wr => ∃ (k : Nat), k ≤ a.length ∧ vi = .int .i64 k ∧ MatV wr w.heap.size w3.heap.size (.slice (some ⟨g, 0, none⟩) a.length cap) vs (gTo P (List.replicate l 0) k) ∧ Chg w.heap.size w3.heap.size w3 wr) (fun vi _ => a.length - (intOf vi).toNat)
  case atStart => exact ⟨0, Nat.zero_le _, rfl, M3.out, Chg.refl _ _ _⟩
  case round =>
    obtain ⟨k, hk, rfl, hM, hC⟩ := hrel
    by_cases hlt : k < a.length
    · have hlt' : (k : Int) < (a.length : Int) := by omega
      obtain ⟨ab, aoff, au, haa, hab1, hac, hau⟩ := RA.out.rowAt k hlt
      subst haa
      obtain ⟨r, hr⟩ : ∃ r, r = a.getD k [] := ⟨_, rfl⟩
      rw [← hr] at hau
      have hrl : r.length = b.length := by rw [hr, (FI.out.ar k hlt).1]
      have hre : r.all Gf.elOk = true := by rw [hr]; exact (FI.out.ar k hlt).2
      have hpg := PG.out k hlt
      rw [← hr] at hpg
      have PK := hide hpg
      have RE := hide hre
      clear hr hpg hre
      have BW := hide (B3.out.trans (hC.below (Nat.le_refl _) B3.out.size))
      have hac2 : wr.cell? ⟨ab, aoff + k, none⟩ = some au := (BW.out.cell (p := ⟨ab, aoff + k, none⟩) hab1).trans hac
      have AU := hide hau
      obtain ⟨aua, auc, hauv, _⟩ := hau
      rw [hrl] at hauv
      subst hauv
      have M := hide hM
      have C := hide hC
      clear hM hC hac
      have hkl : k < (gTo P (List.replicate l 0) k).length := by rw [gTo_length _ _ _ (by rw [PL.out]; exact hk), PL.out]; exact hlt
      have KL := hide hkl
      clear hkl
      go_wp2
      go_loopw [26] (fun vi wr2 => ∃ (j : Nat), j ≤ b.length ∧ vi = .int .i64 j ∧ MatV wr2 w.heap.size w3.heap.size (.slice (some ⟨g, 0, none⟩) a.length cap) vs ((gTo P (List.replicate l 0) k).set k (ci (mulRow (b.map nat) l (nat r) j))) ∧ Chg w.heap.size w3.heap.size w3 wr2) (fun vi _ => b.length - (intOf vi).toNat)
      case atStart =>
        refine ⟨0, Nat.zero_le _, rfl, ?_, C.out⟩
        have e := gTo_get P (List.replicate l 0) k (by rw [PL.out]; exact hlt)
        have e2 := set_same _ k [] KL.out
        rw [e] at e2
        rw [mulRow, Gf.ci_zeros, e2]
        exact M.out
      case round =>
        obtain ⟨j, hj, rfl, hM2, hC2⟩ := hrel
        by_cases hltj : j < b.length
        · have hltj' : (j : Int) < (b.length : Int) := by omega
          have BW2 := hide (B3.out.trans (hC2.below (Nat.le_refl _) B3.out.size))
          obtain ⟨bb', boff', bu, hbb', hbb1, hbc, hbu⟩ := RB.out.rowAt j hltj
          simp only [Option.some.injEq, Addr.mk.injEq, and_true] at hbb'
          obtain ⟨rfl, rfl⟩ := hbb'
          have hbc2 : wr.cell? ⟨bb, boff + j, none⟩ = some bu := (BW2.out.cell (p := ⟨bb, boff + j, none⟩) hbb1).trans hbc
          obtain ⟨q, hq⟩ : ∃ q, q = nat (b.getD j []) := ⟨_, rfl⟩
          have hqe := (FI.out.br j hltj).2
          have hql : q.length = l := by rw [hq, Gf.nat_length, (FI.out.br j hltj).1]
          have hqlt : AllLt q := by rw [hq]; exact Gf.nat_lt hqe
          rw [← Gf.ci_nat hqe, ← hq] at hbu
          have hq2 : (b.map nat).getD j [] = q := by rw [natM_get, hq]
          obtain ⟨rb, roff, ru, rfl, hrc, hru⟩ := (AU.out.below BW2.out).row j (by omega)
          obtain ⟨x, hx⟩ : ∃ x, x = (nat r).getD j 0 := ⟨_, rfl⟩
          have hx2 : r.getD j 0 = ((x : Nat) : Int) := by
            have := Gf.ci_getD (nat r) j
            rw [Gf.ci_nat RE.out] at this
            rw [this, hx]
          rw [hx2] at hru
          subst hru
          have hx256 : x < 256 := by rw [hx]; exact Gf.nat_lt RE.out j
          obtain ⟨s, hs⟩ : ∃ s, s = mulRow (b.map nat) l (nat r) j := ⟨_, rfl⟩
          have hsl : s.length = l := by rw [hs, mulRow_length]
          have hslt : AllLt s := by rw [hs]; exact mulRow_lt (Gf.nat_lt RE.out) j
          have hnext : mulRow (b.map nat) l (nat r) (j + 1) = amTo s q x 0 q.length := by rw [mulRow, hq2, ← hs, ← hx]
          rw [← hs] at hM2
          have hkl2 : k < ((gTo P (List.replicate l 0) k).set k (ci s)).length := by rw [List.length_set]; exact KL.out
          have hcu := hM2.cell k hkl2
          have hro := hM2.row k hkl2
          rw [getD_set _ _ _ _ _ KL.out, if_pos rfl] at hro
          obtain ⟨u, hu⟩ : ∃ u, u = vs.getD k nilRow := ⟨_, rfl⟩
          rw [← hu] at hcu hro
          have U := hide hu
          have O := hide hro
          have M2 := hide hM2
          have C2 := hide hC2
          have NX := hide hnext
          have BU := hide hbu
          have QL := hide hql
          have QLT := hide hqlt
          have SL := hide hsl
          have SLT := hide hslt
          have KL2 := hide hkl2
          have TT := hide (Gf.Tab.below T.out BW2.out)
          clear hu hro hM2 hC2 hnext hbu hql hqlt hsl hslt hkl2 hq hqe hq2 hx hx2 hs hbc
          have TG : Hid (∀ w', wr.grownBy w' u.ownBlock → Gf.Tab w') := fun w' hg => Gf.tab_grown TT.out hg (fun k hk => by have := (World.ownsRow.lt O.out k hk).1; omega)
          have QG : Hid (∀ w', wr.grownBy w' u.ownBlock → Rd w' bu (ci q)) := fun w' hg => BU.out.below (BW2.out.grown hg BW2.out.size (fun k hk => by have := (World.ownsRow.lt O.out k hk).1; omega))
          have i0 : (0 : Int) ≤ (k : Int) := by omega
          have i1 : (0 : Int) ≤ (j : Int) := by omega
          go_wp2
          go_region_with (go_at_call 78; refine (addMultiple_any u bu s q x 0 w.heap.size wr.drew (fun w' hg => TG.out w' ⟨hg.os, hg.tape, hg.output, hg.size, hg.block⟩) (by exact O.out.drew) (fun w' hg => QG.out w' ⟨hg.os, hg.tape, hg.output, hg.size, hg.block⟩) (by omega) (by omega) (by omega) (by rw [QL.out, SL.out]; omega) (by rw [SL.out]; omega) SLT.out QLT.out).mono ?_; rintro e w' ⟨rfl, ho, hg⟩)
          all_goals
            have ho2 : Own w' w.heap.size (vs.getD k nilRow) (ci (mulRow (b.map nat) l (nat r) (j + 1))) := by
              rw [NX.out, ← U.out]
              simpa using ho
            have hg2' : wr.grownBy w' (vs.getD k nilRow).ownBlock := by
              rw [← U.out]
              exact ⟨hg.os, hg.tape, hg.output, hg.size, hg.block⟩
            have W2 := hide (M2.out.write k KL2.out _ ho2 hg2')
            have C3 := hide (C2.out.trans (M2.out.writeChg k KL2.out hg2'))
            clear ho hg ho2 hg2'
            go_wp2
            go_roundw
            case rel =>
              refine ⟨j + 1, by omega, by go_num, ?_, C3.out⟩
              have := W2.out
              rw [List.set_set] at this
              exact this
            case measure => simp [intOf]; omega
        · obtain rfl : j = b.length := by omega
          have M2 := hide hM2
          have C2 := hide hC2
          have RL := hide hrl
          clear hM2 hC2 hrl
          go_wp2
          go_roundw
          case rel =>
            refine ⟨k + 1, by omega, by go_num, ?_, C2.out⟩
            have := M2.out
            rw [← RL.out, ← PK.out, gTo_step _ _ k (by rw [PL.out]; exact hlt)] at this
            exact this
          case measure => simp [intOf]; omega
    · obtain rfl : k = a.length := by omega
      have M := hide hM
      have C := hide hC
      clear hM hC
      go_wp2
      go_ret
      have hm := M.out
      have e := gTo_end P (List.replicate l 0)
      rw [PL.out] at e
      rw [e] at hm
      exact ⟨_, rfl, ⟨_, hm.wider (Nat.le_refl _) C.out.size⟩, B3.out.trans (C.out.below (Nat.le_refl _) B3.out.size)⟩
end Go.Proofs.YtiojipicincgfaaDoor

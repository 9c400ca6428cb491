/-
  The program's product of rows that fit, in one call: however many rows, however long. The contract says what it asks. Which rows are pieces: the program's functions and its model's, call by call. No condition. Pieces encoded: the program's functions and its model's, call by call. The program's table of rests must hold its seven numbers where the program's own functions are called. EncodePieces: the program's function and its model's, at all arguments. The program's table of rests must hold its seven numbers where the program's own function is called.
-/
import Derived.Test.YtbgadbokejaomaaGreatDoorRewriteAtB21
import Derived.Test.YtbgadbokejaomaaGreatDoorRewriteAtB23
namespace Go.Proofs.YtbgadbokejaomaaGreatDoor
open Go.RowKit
open Gf (ci nat amTo AllLt)

set_option maxRecDepth 100000 in
theorem addMultiple_nil (sv qv : Value) (f a : Int) (w : World) (hq : Rd w qv []) :
    Calls Tryz.prog 241 #[sv, qv, .int .i64 f, .int .i64 a] w fun e w' => e = .returned (.tuple #[]) ∧ w = w' := by
  obtain ⟨x, cap, rfl, h1, h2, h3⟩ := hq
  clear h1 h2 h3
  go_enter Tryz.func241, Tryz.ntmps241
  go_wp2
  go_loop [12] (fun vi => vi = .int .i64 0) (fun _ => 0)
  case atStart => rfl
  case round =>
    subst hrel
    go_wp2
    go_end0
    exact ⟨rfl, rfl⟩
theorem addMultiple_any (sv qv : Value) (s q : List Nat) (f a : Int) (base : Nat) (w : World) (hT : ∀ w', w.grownBy w' sv.ownBlock → Gf.Tab w') (hs : Own w base sv (ci s)) (hq : ∀ w', w.grownBy w' sv.ownBlock → Rd w' qv (ci q))
    (hf0 : 0 ≤ f) (hf : f < 256) (ha0 : 0 ≤ a) (hfit : a + q.length ≤ s.length) (hsl : s.length ≤ 1048576) (hsa : AllLt s) (hqa : AllLt q) :
    Calls Tryz.prog 241 #[sv, qv, .int .i64 f, .int .i64 a] w fun e w' => e = .returned (.tuple #[]) ∧ Own w' base sv (ci (amTo s q f.toNat a.toNat q.length)) ∧ w.grownBy w' sv.ownBlock := by
  by_cases h0 : 0 < s.length
  · exact Gf.addMultiple_calls sv qv s q f a base w hT hs hq hf0 hf ha0 hfit hsl hsa hqa h0
  · have hq0 : q = [] := List.eq_nil_of_length_eq_zero (by omega)
    subst hq0
    refine (addMultiple_nil sv qv f a w (hq w (World.grownBy.refl _ _))).mono ?_
    rintro e w' ⟨rfl, rfl⟩
    exact ⟨rfl, hs, World.grownBy.refl _ _⟩
structure Fit (a b : List (List Int)) (l : Nat) : Prop where
  a1 : 1 ≤ a.length
  aN : a.length ≤ 4096
  b1 : 1 ≤ b.length
  bN : b.length ≤ 4096
  lN : l ≤ 4096
  ar : ∀ i, i < a.length → (a.getD i []).length = b.length ∧ (a.getD i []).all Gf.elOk = true
  br : ∀ i, i < b.length → (b.getD i []).length = l ∧ (b.getD i []).all Gf.elOk = true

set_option maxRecDepth 100000 in
set_option maxHeartbeats 1600000 in
theorem productOf_calls (av bv : Value) (a b : List (List Int)) (l : Nat) (w : World) (hT : Gf.Tab w) (ha : RdM w av a) (hb : RdM w bv b) (hf : Fit a b l) :
    Calls Tryz.prog 210 #[av, bv] w fun e w' => ∃ v', e = .returned v' ∧ Mat w' w.heap.size w'.heap.size v' (mulM a b) ∧ Below w.heap.size w w' := by
  have RA := hide ha
  have RB := hide hb
  have T := hide hT
  have FI := hide hf
  obtain ⟨aa, acap, rfl, _⟩ := ha
  obtain ⟨ba, bcap, rfl, _⟩ := hb
  have hal : 1 ≤ a.length := hf.a1
  have hal8 : a.length ≤ 4096 := hf.aN
  have hbl : 1 ≤ b.length := hf.b1
  have hbl8 : b.length ≤ 4096 := hf.bN
  have hl8 : l ≤ 4096 := hf.lN
  have hl : l = (b.getD 0 []).length := (hf.br 0 (by omega)).1.symm
  have HL := hide hl
  clear hT hl hf
  obtain ⟨bb, boff, bu0, rfl, hbb0, hbc0, hbu0⟩ := RB.out.rowAt 0 (by omega)
  rw [Nat.add_zero] at hbc0
  obtain ⟨bua, bucap, hbu, _⟩ := hbu0
  rw [← HL.out] at hbu
  subst hbu
  obtain ⟨P, hP⟩ : ∃ P, P = mulM a b := ⟨_, rfl⟩
  rw [← hP]
  have hPl : P.length = a.length := by rw [hP, mulM_length]
  have hPg : ∀ k, k < a.length → P.getD k [] = ci (mulRow (b.map nat) l (nat (a.getD k [])) (a.getD k []).length) := fun k hk => by rw [hP, mulM_get _ _ _ hk, HL.out]
  have PL := hide hPl
  have PG := hide hPg
  clear hP hPl hPg
  go_enter Tryz.func210, Tryz.ntmps210
  go_wp2_with fail
  refine (newRows_calls a.length l _ (by omega) (by omega)).mono ?_
  rintro e w3 ⟨v3, rfl, ⟨vs, hm⟩, hb3⟩
  rw [← PL.out, ← gTo_zero] at hm
  obtain ⟨g, cap, hv3, hg1, hg2, hg3, hg4⟩ := hm.open (by rw [gTo_length _ _ _ (Nat.zero_le _), PL.out]; omega)
  rw [gTo_length _ _ _ (Nat.zero_le _), PL.out] at hv3 hg3
  subst hv3
  have M3 := hide hm
  have B3 := hide hb3
  have S2 : 1 < w.heap.size := Gf.tab_pos T.out
  clear hm hb3 hbc0
  go_wp2
  go_loopw [19] (fun vi wr => ∃ (k : Nat), k ≤ a.length ∧ vi = .int .i64 k ∧ MatV wr w.heap.size w3.heap.size (.slice (some ⟨g, 0, none⟩) a.length cap) vs (gTo P (List.replicate l 0) k) ∧ Chg w.heap.size w3.heap.size w3 wr) (fun vi _ => a.length - (intOf vi).toNat)
  case atStart => exact ⟨0, Nat.zero_le _, rfl, M3.out, Chg.refl _ _ _⟩
  case round =>
    obtain ⟨k, hk, rfl, hM, hC⟩ := hrel
    by_cases hlt : k < a.length
    · have hlt' : (k : Int) < (a.length : Int) := by omega
      obtain ⟨ab, aoff, au, haa, hab1, hac, hau⟩ := RA.out.rowAt k hlt
      subst haa
      obtain ⟨r, hr⟩ : ∃ r, r = a.getD k [] := ⟨_, rfl⟩
      rw [← hr] at hau
      have hrl : r.length = b.length := by rw [hr, (FI.out.ar k hlt).1]
      have hre : r.all Gf.elOk = true := by rw [hr]; exact (FI.out.ar k hlt).2
      have hpg := PG.out k hlt
      rw [← hr] at hpg
      have PK := hide hpg
      have RE := hide hre
      clear hr hpg hre
      have BW := hide (B3.out.trans (hC.below (Nat.le_refl _) B3.out.size))
      have hac2 : wr.cell? ⟨ab, aoff + k, none⟩ = some au := (BW.out.cell (p := ⟨ab, aoff + k, none⟩) hab1).trans hac
      have AU := hide hau
      obtain ⟨aua, auc, hauv, _⟩ := hau
      rw [hrl] at hauv
      subst hauv
      have M := hide hM
      have C := hide hC
      clear hM hC hac
      have hkl : k < (gTo P (List.replicate l 0) k).length := by rw [gTo_length _ _ _ (by rw [PL.out]; exact hk), PL.out]; exact hlt
      have KL := hide hkl
      clear hkl
      go_wp2
      go_loopw [26] (fun vi wr2 => ∃ (j : Nat), j ≤ b.length ∧ vi = .int .i64 j ∧ MatV wr2 w.heap.size w3.heap.size (.slice (some ⟨g, 0, none⟩) a.length cap) vs ((gTo P (List.replicate l 0) k).set k (ci (mulRow (b.map nat) l (nat r) j))) ∧ Chg w.heap.size w3.heap.size w3 wr2) (fun vi _ => b.length - (intOf vi).toNat)
      case atStart =>
        refine ⟨0, Nat.zero_le _, rfl, ?_, C.out⟩
        have e := gTo_get P (List.replicate l 0) k (by rw [PL.out]; exact hlt)
        have e2 := set_same _ k [] KL.out
        rw [e] at e2
        rw [mulRow, Gf.ci_zeros, e2]
        exact M.out
      case round =>
        obtain ⟨j, hj, rfl, hM2, hC2⟩ := hrel
        by_cases hltj : j < b.length
        · have hltj' : (j : Int) < (b.length : Int) := by omega
          have BW2 := hide (B3.out.trans (hC2.below (Nat.le_refl _) B3.out.size))
          obtain ⟨bb', boff', bu, hbb', hbb1, hbc, hbu⟩ := RB.out.rowAt j hltj
          simp only [Option.some.injEq, Addr.mk.injEq, and_true] at hbb'
          obtain ⟨rfl, rfl⟩ := hbb'
          have hbc2 : wr.cell? ⟨bb, boff + j, none⟩ = some bu := (BW2.out.cell (p := ⟨bb, boff + j, none⟩) hbb1).trans hbc
          obtain ⟨q, hq⟩ : ∃ q, q = nat (b.getD j []) := ⟨_, rfl⟩
          have hqe := (FI.out.br j hltj).2
          have hql : q.length = l := by rw [hq, Gf.nat_length, (FI.out.br j hltj).1]
          have hqlt : AllLt q := by rw [hq]; exact Gf.nat_lt hqe
          rw [← Gf.ci_nat hqe, ← hq] at hbu
          have hq2 : (b.map nat).getD j [] = q := by rw [natM_get, hq]
          obtain ⟨rb, roff, ru, rfl, hrc, hru⟩ := (AU.out.below BW2.out).row j (by omega)
          obtain ⟨x, hx⟩ : ∃ x, x = (nat r).getD j 0 := ⟨_, rfl⟩
          have hx2 : r.getD j 0 = ((x : Nat) : Int) := by
            have := Gf.ci_getD (nat r) j
            rw [Gf.ci_nat RE.out] at this
            rw [this, hx]
          rw [hx2] at hru
          subst hru
          have hx256 : x < 256 := by rw [hx]; exact Gf.nat_lt RE.out j
          obtain ⟨s, hs⟩ : ∃ s, s = mulRow (b.map nat) l (nat r) j := ⟨_, rfl⟩
          have hsl : s.length = l := by rw [hs, mulRow_length]
          have hslt : AllLt s := by rw [hs]; exact mulRow_lt (Gf.nat_lt RE.out) j
          have hnext : mulRow (b.map nat) l (nat r) (j + 1) = amTo s q x 0 q.length := by rw [mulRow, hq2, ← hs, ← hx]
          rw [← hs] at hM2
          have hkl2 : k < ((gTo P (List.replicate l 0) k).set k (ci s)).length := by rw [List.length_set]; exact KL.out
          have hcu := hM2.cell k hkl2
          have hro := hM2.row k hkl2
          rw [getD_set _ _ _ _ _ KL.out, if_pos rfl] at hro
          obtain ⟨u, hu⟩ : ∃ u, u = vs.getD k nilRow := ⟨_, rfl⟩
          rw [← hu] at hcu hro
          have U := hide hu
          have O := hide hro
          have M2 := hide hM2
          have C2 := hide hC2
          have NX := hide hnext
          have BU := hide hbu
          have QL := hide hql
          have QLT := hide hqlt
          have SL := hide hsl
          have SLT := hide hslt
          have KL2 := hide hkl2
          have TT := hide (Gf.Tab.below T.out BW2.out)
          clear hu hro hM2 hC2 hnext hbu hql hqlt hsl hslt hkl2 hq hqe hq2 hx hx2 hs hbc
          have TG : Hid (∀ w', wr.grownBy w' u.ownBlock → Gf.Tab w') := fun w' hg => Gf.tab_grown TT.out hg (fun k hk => by have := (World.ownsRow.lt O.out k hk).1; omega)
          have QG : Hid (∀ w', wr.grownBy w' u.ownBlock → Rd w' bu (ci q)) := fun w' hg => BU.out.below (BW2.out.grown hg BW2.out.size (fun k hk => by have := (World.ownsRow.lt O.out k hk).1; omega))
          have i0 : (0 : Int) ≤ (k : Int) := by omega
          have i1 : (0 : Int) ≤ (j : Int) := by omega
          go_wp2
          go_region_with (go_at_call 241; refine (addMultiple_any u bu s q x 0 w.heap.size wr.drew (fun w' hg => TG.out w' ⟨hg.os, hg.tape, hg.output, hg.size, hg.block⟩) (by exact O.out.drew) (fun w' hg => QG.out w' ⟨hg.os, hg.tape, hg.output, hg.size, hg.block⟩) (by omega) (by omega) (by omega) (by rw [QL.out, SL.out]; omega) (by rw [SL.out]; omega) SLT.out QLT.out).mono ?_; rintro e w' ⟨rfl, ho, hg⟩)
          all_goals
            have ho2 : Own w' w.heap.size (vs.getD k nilRow) (ci (mulRow (b.map nat) l (nat r) (j + 1))) := by
              rw [NX.out, ← U.out]
              simpa using ho
            have hg2' : wr.grownBy w' (vs.getD k nilRow).ownBlock := by
              rw [← U.out]
              exact ⟨hg.os, hg.tape, hg.output, hg.size, hg.block⟩
            have W2 := hide (M2.out.write k KL2.out _ ho2 hg2')
            have C3 := hide (C2.out.trans (M2.out.writeChg k KL2.out hg2'))
            clear ho hg ho2 hg2'
            go_wp2
            go_roundw
            case rel =>
              refine ⟨j + 1, by omega, by go_num, ?_, C3.out⟩
              have := W2.out
              rw [List.set_set] at this
              exact this
            case measure => simp [intOf]; omega
        · obtain rfl : j = b.length := by omega
          have M2 := hide hM2
          have C2 := hide hC2
          have RL := hide hrl
          clear hM2 hC2 hrl
          go_wp2
          go_roundw
          case rel =>
            refine ⟨k + 1, by omega, by go_num, ?_, C2.out⟩
            have := M2.out
            rw [← RL.out, ← PK.out, gTo_step _ _ k (by rw [PL.out]; exact hlt)] at this
            exact this
          case measure => simp [intOf]; omega
    · obtain rfl : k = a.length := by omega
      have M := hide hM
      have C := hide hC
      clear hM hC
      go_wp2
      go_ret
      have hm := M.out
      have e := gTo_end P (List.replicate l 0)
      rw [PL.out] at e
      rw [e] at hm
      exact ⟨_, rfl, ⟨_, hm.wider (Nat.le_refl _) C.out.size⟩, B3.out.trans (C.out.below (Nat.le_refl _) B3.out.size)⟩
end Go.Proofs.YtbgadbokejaomaaGreatDoor

namespace Go.Proofs.YtbgadbokejaomaaGreatDoor
open Go.RowKit

def asLongOk (m : List (List Int)) : Bool := decide (m.length = 0) || (decide (((m.getD 0 []).length : Int) ≤ 32) && m.all (fun r : List Int => decide ((r.length : Int) = ((m.getD 0 []).length : Int))))
def piecesOk (m : List (List Int)) : Bool := asLongOk m && m.all (fun r : List Int => r.all Gf.elOk)
def pieceAt (m : List (List Int)) (i : Nat) : Bool := decide ((m.getD i []).length = (m.getD 0 []).length ∧ (m.getD i []).length ≤ 32) && (m.getD i []).all Gf.elOk
theorem piecesOk_at {m : List (List Int)} (h : piecesOk m = true) (i : Nat) (hi : i < m.length) : (m.getD i []).length = (m.getD 0 []).length ∧ (m.getD i []).length ≤ 32 ∧ (m.getD i []).all Gf.elOk = true := by
  simp only [piecesOk, asLongOk, Bool.and_eq_true, Bool.or_eq_true, decide_eq_true_eq] at h
  obtain ⟨h1, h2⟩ := h
  have he := all_at (d := []) h2 i hi
  rcases h1 with h1 | ⟨h1, h3⟩
  · omega
  · have hl := all_at (d := []) h3 i hi
    simp only [decide_eq_true_eq] at hl
    exact ⟨by omega, by omega, he⟩
theorem piecesOk_yes {m : List (List Int)} (h : ∀ i, i < m.length → pieceAt m i = true) : piecesOk m = true := by
  have f : ∀ i, i < m.length → (m.getD i []).length = (m.getD 0 []).length ∧ (m.getD i []).length ≤ 32 ∧ (m.getD i []).all Gf.elOk = true := fun i hi => by
    have := h i hi
    simp only [pieceAt, Bool.and_eq_true, decide_eq_true_eq] at this
    exact ⟨this.1.1, this.1.2, this.2⟩
  unfold piecesOk asLongOk
  rw [all_yes (d := []) (p := fun r : List Int => r.all Gf.elOk) (fun i hi => (f i hi).2.2), all_yes (d := []) (p := fun r : List Int => decide ((r.length : Int) = ((m.getD 0 []).length : Int))) (fun i hi => by have := (f i hi).1; simp only [decide_eq_true_eq]; omega)]
  by_cases h0 : m.length = 0
  · rw [decide_eq_true h0]; rfl
  · have := (f 0 (by omega)).2.1
    rw [decide_eq_true (show ((m.getD 0 []).length : Int) ≤ 32 by omega)]
    simp
set_option maxRecDepth 100000 in
set_option maxHeartbeats 800000 in
theorem areAsLong_calls (v : Value) (m : List (List Int)) (w : World) (h : RdM w v m) :
    Calls Tryz.prog 186 #[v] w fun e w' => e = .returned (.bool (asLongOk m)) ∧ Below w.heap.size w w' := by
  have R := hide h
  obtain ⟨a, cap, rfl, _⟩ := h
  by_cases h0 : m.length = 0
  · have e : asLongOk m = true := by unfold asLongOk; rw [decide_eq_true h0]; rfl
    rw [e]
    have e1 : ((m.length : Int) == 0) = true := by simp; simpa using h0
    clear e h0
    go_enter Tryz.func186, Tryz.ntmps186
    go_wp2
    go_ret
    exact ⟨rfl, Below.refl _ _⟩
  · have hl : 0 < m.length := by omega
    have hl' : (0 : Int) < (m.length : Int) := by omega
    obtain ⟨b, off, u, rfl, hc1, hu⟩ := R.out.row 0 hl
    rw [Nat.add_zero] at hc1
    obtain ⟨r, hr⟩ : ∃ r, r = m.getD 0 [] := ⟨_, rfl⟩
    rw [← hr] at hu
    obtain ⟨b3, hb3⟩ : ∃ b, b = m.all (fun q : List Int => decide ((q.length : Int) = (r.length : Int))) := ⟨_, rfl⟩
    have e : asLongOk m = (decide ((r.length : Int) ≤ 32) && b3) := by
      rw [asLongOk, decide_eq_false h0, Bool.false_or, ← hr, hb3]
    rw [e]
    have e1 : ((m.length : Int) == 0) = false := by simp; intro h; rw [h] at hl; simp at hl
    have B3 := hide hb3
    clear e hr hb3 h0
    obtain ⟨ua, uc, rfl, _⟩ := hu
    by_cases h32 : (r.length : Int) ≤ 32
    · rw [decide_eq_true h32]
      go_enter Tryz.func186, Tryz.ntmps186
      go_wp2_with fail
      refine (areAllLong_calls _ m _ _ R.out).mono ?_
      rw [← B3.out]
      rintro e w1 ⟨rfl, hb⟩
      have B := hide hb
      clear hb
      go_wp2
      go_ret
      exact ⟨by simp, B.out⟩
    · rw [decide_eq_false h32]
      go_enter Tryz.func186, Tryz.ntmps186
      go_wp2
      go_ret
      exact ⟨rfl, Below.refl _ _⟩

set_option maxRecDepth 100000 in
set_option maxHeartbeats 800000 in
theorem arePieces_calls (v : Value) (m : List (List Int)) (w : World) (h : RdM w v m) :
    Calls Tryz.prog 177 #[v] w fun e w' => e = .returned (.bool (piecesOk m)) ∧ Below w.heap.size w w' := by
  have R := hide h
  obtain ⟨a, cap, rfl, _⟩ := h
  obtain ⟨b1, hb1⟩ : ∃ b, b = asLongOk m := ⟨_, rfl⟩
  obtain ⟨b2, hb2⟩ : ∃ b, b = m.all (fun r : List Int => r.all Gf.elOk) := ⟨_, rfl⟩
  have e : piecesOk m = (b1 && b2) := by rw [piecesOk, hb1, hb2]
  rw [e]
  have B1 := hide hb1
  have B2 := hide hb2
  clear e hb1 hb2
  cases b1 with
  | false =>
    go_enter Tryz.func177, Tryz.ntmps177
    go_wp2_with fail
    refine (areAsLong_calls _ m _ R.out).mono ?_
    rw [← B1.out]
    rintro e w1 ⟨rfl, hb⟩
    have B := hide hb
    clear hb
    go_wp2
    go_ret
    exact ⟨rfl, B.out⟩
  | true =>
    go_enter Tryz.func177, Tryz.ntmps177
    go_wp2_with fail
    refine (areAsLong_calls _ m _ R.out).mono ?_
    rw [← B1.out]
    rintro e w1 ⟨rfl, hb⟩
    have B := hide hb
    clear hb
    go_wp2_with fail
    refine (allEls_calls _ m _ (R.out.below B.out)).mono ?_
    rw [← B2.out]
    rintro e w' ⟨rfl, rfl⟩
    go_wp2
    go_ret
    exact ⟨rfl, B.out⟩

end Go.Proofs.YtbgadbokejaomaaGreatDoor

namespace Go.Proofs.YtbgadbokejaomaaGreatDoor
open Go.RowKit
open Gf (ci nat amTo AllLt)

set_option maxRecDepth 100000 in
theorem l2Add_nil (sv qv : Value) (f : Int) (w : World) (hq : Rd w qv []) :
    Calls Tryz.prog 200 #[sv, qv, .int .i64 f] w fun e w' => e = .returned (.tuple #[]) ∧ w = w' := by
  obtain ⟨x, cap, rfl, h1, h2, h3⟩ := hq
  clear h1 h2 h3
  go_enter Tryz.func200, Tryz.ntmps200
  go_wp2
  go_loop [10] (fun vi => vi = .int .i64 0) (fun _ => 0)
  case atStart => rfl
  case round =>
    subst hrel
    go_wp2
    go_end0
    exact ⟨rfl, rfl⟩
theorem l2Add_any (sv qv : Value) (s q : List Nat) (F base : Nat) (w : World) (hs : Own w base sv (ci s)) (hq : ∀ w', w.grownBy w' sv.ownBlock → Rd w' qv (ci q))
    (hf : F < 256) (hfit : q.length ≤ s.length) (hsl : s.length ≤ 1048576) (hsa : AllLt s) (hqa : AllLt q) :
    Calls Tryz.prog 200 #[sv, qv, .int .i64 F] w fun e w' => e = .returned (.tuple #[]) ∧ Own w' base sv (ci (amTo s q F 0 q.length)) ∧ w.grownBy w' sv.ownBlock := by
  by_cases h0 : 0 < s.length
  · exact Gf.l2Add_calls sv qv s q F base w hs hq hf hfit hsl hsa hqa h0
  · have hq0 : q = [] := List.eq_nil_of_length_eq_zero (by omega)
    subst hq0
    refine (l2Add_nil sv qv F w (hq w (World.grownBy.refl _ _))).mono ?_
    rintro e w' ⟨rfl, rfl⟩
    exact ⟨rfl, hs, World.grownBy.refl _ _⟩

set_option maxRecDepth 100000 in
set_option maxHeartbeats 1600000 in
theorem l3Times_calls (av bv : Value) (a b : List (List Int)) (l : Nat) (w : World) (ha : RdM w av a) (hb : RdM w bv b) (hf : Fit a b l) :
    Calls Tryz.prog 170 #[av, bv] w fun e w' => ∃ v', e = .returned v' ∧ Mat w' w.heap.size w'.heap.size v' (mulM a b) ∧ Below w.heap.size w w' := by
  have RA := hide ha
  have RB := hide hb
  have FI := hide hf
  obtain ⟨aa, acap, rfl, _⟩ := ha
  obtain ⟨ba, bcap, rfl, _⟩ := hb
  have hal8 : a.length ≤ 4096 := hf.aN
  have hbl : 1 ≤ b.length := hf.b1
  have hbl8 : b.length ≤ 4096 := hf.bN
  have hl8 : l ≤ 4096 := hf.lN
  have hl : l = (b.getD 0 []).length := (hf.br 0 (by omega)).1.symm
  have HL := hide hl
  have hbl' : (0 : Int) < (b.length : Int) := by omega
  obtain ⟨bb, boff, bu0, rfl, hbb0, hbc0, hbu0⟩ := RB.out.rowAt 0 (by omega)
  rw [Nat.add_zero] at hbc0
  obtain ⟨bua, bucap, hbu, _⟩ := hbu0
  rw [← HL.out] at hbu
  subst hbu
  have BC0 := hide hbc0
  obtain ⟨P, hP⟩ : ∃ P, P = mulM a b := ⟨_, rfl⟩
  rw [← hP]
  have hPl : P.length = a.length := by rw [hP, mulM_length]
  have hPg : ∀ k, k < a.length → P.getD k [] = ci (mulRow (b.map nat) l (nat (a.getD k [])) (a.getD k []).length) := fun k hk => by rw [hP, mulM_get _ _ _ hk, HL.out]
  have PL := hide hPl
  have PG := hide hPg
  clear hl hf hbc0 hP hPl hPg
  go_enter Tryz.func170, Tryz.ntmps170
  go_wp2
  go_loopw [5, 13] (fun vo vi wr => ∃ (k : Nat) (vs : List Value), k ≤ a.length ∧ vi = .int .i64 k ∧ MatV wr w.heap.size wr.heap.size vo vs (P.take k) ∧ Below w.heap.size w wr) (fun _ vi _ => a.length - (intOf vi).toNat)
  case atStart =>
    obtain ⟨vs, hv⟩ := Mat.nil w w.heap.size w.heap.size
    exact ⟨0, vs, Nat.zero_le _, rfl, hv, Below.refl _ _⟩
  case round =>
    obtain ⟨k, vs, hk, rfl, hm, hb⟩ := hrel
    have M := hide hm
    have B := hide hb
    clear hm hb
    by_cases hlt : k < a.length
    · have hlt' : (k : Int) < (a.length : Int) := by omega
      obtain ⟨ab, aoff, au, rfl, hab1, hac, hau⟩ := RA.out.rowAt k hlt
      obtain ⟨r, hr⟩ : ∃ r, r = a.getD k [] := ⟨_, rfl⟩
      rw [← hr] at hau
      have hrl : r.length = b.length := by rw [hr, (FI.out.ar k hlt).1]
      have hre : r.all Gf.elOk = true := by rw [hr]; exact (FI.out.ar k hlt).2
      have hpg := PG.out k hlt
      rw [← hr, hrl] at hpg
      have hnext : P.take k ++ [ci (mulRow (b.map nat) l (nat r) b.length)] = P.take (k + 1) := by
        rw [take_snocM P [] k (by rw [PL.out]; exact hlt), hpg]
      have NX := hide hnext
      have RE := hide hre
      clear hr hpg hre hnext
      have hac2 : wr.cell? ⟨ab, aoff + k, none⟩ = some au := (B.out.cell (p := ⟨ab, aoff + k, none⟩) hab1).trans hac
      have hbc2 : wr.cell? ⟨bb, boff, none⟩ = _ := (B.out.cell (p := ⟨bb, boff, none⟩) hbb0).trans BC0.out
      have AU := hide hau
      obtain ⟨aua, auc, hauv, _⟩ := hau
      rw [hrl] at hauv
      subst hauv
      have RL := hide hrl
      obtain ⟨W1, rfl⟩ : ∃ W1, W1 = wr := ⟨_, rfl⟩
      have s1 := B.out.size
      clear hac hrl
      go_wp2_with (at_make; refine wpList_make_ints rfl _ _ rfl W1.heap.size _ _ l rfl rfl (by omega) (by omega) (by omega) (Nat.le_refl _) ?_)
      intro w1 hx hg1
      have hb1 : Below W1.heap.size W1 w1 := (Below.refl _ _).grown hg1 (Nat.le_refl _) (fun k h => by cases h)
      have OX := hide hx
      have BX := hide hb1
      clear hx hg1 hb1
      go_wp2
      go_loopw [24] (fun vi wr2 => ∃ (j : Nat), j ≤ b.length ∧ vi = .int .i64 j ∧ Own wr2 W1.heap.size (.slice (some ⟨W1.heap.size, 0, none⟩) l l) (ci (mulRow (b.map nat) l (nat r) j)) ∧ Below W1.heap.size W1 wr2) (fun vi _ => b.length - (intOf vi).toNat)
      case atStart =>
        refine ⟨0, Nat.zero_le _, rfl, ?_, BX.out⟩
        rw [mulRow, Gf.ci_zeros]
        exact OX.out
      case round =>
        obtain ⟨j, hj, rfl, ho, hb2⟩ := hrel
        have O := hide ho
        have B2 := hide hb2
        have BW := hide (B.out.trans (B2.out.mono s1))
        clear ho hb2
        by_cases hltj : j < b.length
        · have hltj' : (j : Int) < (b.length : Int) := by omega
          obtain ⟨bb', boff', bu, hbb', hbb1, hbc, hbu⟩ := RB.out.rowAt j hltj
          simp only [Option.some.injEq, Addr.mk.injEq, and_true] at hbb'
          obtain ⟨rfl, rfl⟩ := hbb'
          have hbc3 : wr.cell? ⟨bb, boff + j, none⟩ = some bu := (BW.out.cell (p := ⟨bb, boff + j, none⟩) hbb1).trans hbc
          obtain ⟨q, hq⟩ : ∃ q, q = nat (b.getD j []) := ⟨_, rfl⟩
          have hqe := (FI.out.br j hltj).2
          have hql : q.length = l := by rw [hq, Gf.nat_length, (FI.out.br j hltj).1]
          have hqlt : AllLt q := by rw [hq]; exact Gf.nat_lt hqe
          rw [← Gf.ci_nat hqe, ← hq] at hbu
          have hq2 : (b.map nat).getD j [] = q := by rw [natM_get, hq]
          obtain ⟨rb, roff, ru, rfl, hrc, hru⟩ := (AU.out.below BW.out).row j (by rw [RL.out]; omega)
          obtain ⟨x, hx⟩ : ∃ x, x = (nat r).getD j 0 := ⟨_, rfl⟩
          have hx2 : r.getD j 0 = ((x : Nat) : Int) := by
            have := Gf.ci_getD (nat r) j
            rw [Gf.ci_nat RE.out] at this
            rw [this, hx]
          rw [hx2] at hru
          subst hru
          have hx256 : x < 256 := by rw [hx]; exact Gf.nat_lt RE.out j
          obtain ⟨s, hs⟩ : ∃ s, s = mulRow (b.map nat) l (nat r) j := ⟨_, rfl⟩
          have hsl : s.length = l := by rw [hs, mulRow_length]
          have hslt : AllLt s := by rw [hs]; exact mulRow_lt (Gf.nat_lt RE.out) j
          have hnext : mulRow (b.map nat) l (nat r) (j + 1) = amTo s q x 0 q.length := by rw [mulRow, hq2, ← hs, ← hx]
          have ho := O.out
          rw [← hs] at ho
          have OS := hide ho
          have NX2 := hide hnext
          have BU := hide hbu
          have QL := hide hql
          have QLT := hide hqlt
          have SL := hide hsl
          have SLT := hide hslt
          have QG : Hid (∀ w', wr.grownBy w' (Value.slice (some ⟨W1.heap.size, 0, none⟩) l l).ownBlock → Rd w' bu (ci q)) := fun w' hg => BU.out.below (BW.out.grown hg BW.out.size (fun k hk => by have := (World.ownsRow.lt OS.out k hk).1; omega))
          clear hnext hbu hql hqlt hsl hslt hq hqe hq2 hx hx2 hs hbc ho
          go_wp2_with fail
          refine (l2Add_any _ bu s q x W1.heap.size _ OS.out QG.out hx256 (by rw [QL.out, SL.out]; exact Nat.le_refl _) (by rw [SL.out]; omega) SLT.out QLT.out).mono ?_
          rintro e w3 ⟨rfl, ho3, hg3⟩
          rw [← NX2.out] at ho3
          have O3 := hide ho3
          have B3 := hide (B2.out.grown hg3 B2.out.size (fun k hk => (World.ownsRow.lt OS.out k hk).1))
          clear ho3 hg3
          go_wp2
          go_roundw
          case rel => exact ⟨j + 1, by omega, by go_num, O3.out, B3.out⟩
          case measure => simp [intOf]; omega
        · obtain rfl : j = b.length := by omega
          go_wp2_with (at_builtin; refine wpList_append_row rfl _ _ rfl w.heap.size W1.heap.size _ vs (P.take k) rfl M.out (B2.out.alloc B2.out.size _) _ _ (O.out.below ((Below.refl _ _).alloc (Nat.le_refl _) _)) (Nat.le_refl _) s1 _ rfl (World.cell?_alloc_at _ _ _ _ (by simp)) (by simp; omega) ?_)
          intro v2 w2 hM2 hB2
          rw [NX.out] at hM2
          have M2 := hide hM2
          have B3 := hide hB2
          clear hM2 hB2
          go_wp2
          go_roundw
          case rel => exact ⟨k + 1, _, by omega, by go_num, M2.out, B.out.trans B3.out⟩
          case measure => simp [intOf]; omega
    · obtain rfl : k = a.length := by omega
      go_wp2
      go_ret
      have hm := M.out
      rw [List.take_of_length_le (by rw [PL.out]; exact Nat.le_refl _)] at hm
      exact ⟨_, rfl, ⟨_, hm⟩, B.out⟩

theorem fit_code {m : List (List Int)} {q : Nat} (hp : piecesOk m = true) (h1 : 1 ≤ m.length) (h2 : m.length ≤ 6) (h3 : 1 ≤ q) (h4 : q ≤ 4) : Fit (codeM m.length q) m (m.getD 0 []).length := by
  have f := piecesOk_at hp
  have f0 := f 0 (by omega)
  exact ⟨by rw [codeM_length]; omega, by rw [codeM_length]; omega, h1, by omega, by omega, codeM_rows _ _, fun i hi => ⟨(f i hi).1, (f i hi).2.2⟩⟩

set_option maxRecDepth 100000 in
set_option maxHeartbeats 800000 in
theorem encode_calls (v : Value) (m : List (List Int)) (q : Nat) (w : World) (hT : Gf.Tab w) (h : RdM w v m) (hp : piecesOk m = true) (h1 : 1 ≤ m.length) (h2 : m.length ≤ 6) (h3 : 1 ≤ q) (h4 : q ≤ 4) :
    Calls Tryz.prog 178 #[v, .int .i64 q] w fun e w' => ∃ v', e = .returned v' ∧ Mat w' w.heap.size w'.heap.size v' (mulM (codeM m.length q) m) ∧ Below w.heap.size w w' := by
  have R := hide h
  have T := hide hT
  have FI := hide (fit_code hp h1 h2 h3 h4)
  obtain ⟨a, cap, rfl, _⟩ := h
  clear hT hp
  go_enter Tryz.func178, Tryz.ntmps178
  go_wp2_with fail
  refine (codeRows_calls m.length q _ T.out h1 h2 h3 h4).mono ?_
  rintro e w1 ⟨v1, rfl, hm1, hb1⟩
  have R1 := hide hm1.rd
  have B1 := hide hb1
  clear hm1 hb1
  go_wp2_with fail
  refine (productOf_calls _ _ (codeM m.length q) m _ _ (Gf.Tab.below T.out B1.out) R1.out (R.out.below B1.out) FI.out).mono ?_
  rintro e w2 ⟨v2, rfl, hm2, hb2⟩
  have M2 := hide (hm2.wider B1.out.size (Nat.le_refl _))
  have B2 := hide (B1.out.trans (hb2.mono B1.out.size))
  clear hm2 hb2
  go_wp2
  go_ret
  exact ⟨_, rfl, M2.out, B2.out⟩

set_option maxRecDepth 100000 in
set_option maxHeartbeats 800000 in
theorem l3Encode_calls (v : Value) (m : List (List Int)) (q : Nat) (w : World) (h : RdM w v m) (hp : piecesOk m = true) (h1 : 1 ≤ m.length) (h2 : m.length ≤ 6) (h3 : 1 ≤ q) (h4 : q ≤ 4) :
    Calls Tryz.prog 138 #[v, .int .i64 q] w fun e w' => ∃ v', e = .returned v' ∧ Mat w' w.heap.size w'.heap.size v' (mulM (codeM m.length q) m) ∧ Below w.heap.size w w' := by
  have R := hide h
  have FI := hide (fit_code hp h1 h2 h3 h4)
  obtain ⟨a, cap, rfl, _⟩ := h
  clear hp
  go_enter Tryz.func138, Tryz.ntmps138
  go_wp2_with fail
  refine (l3Matrix_calls m.length q _ h1 h2 h3 h4).mono ?_
  rintro e w1 ⟨v1, rfl, hm1, hb1⟩
  have R1 := hide hm1.rd
  have B1 := hide hb1
  clear hm1 hb1
  go_wp2_with fail
  refine (l3Times_calls _ _ (codeM m.length q) m _ _ R1.out (R.out.below B1.out) FI.out).mono ?_
  rintro e w2 ⟨v2, rfl, hm2, hb2⟩
  have M2 := hide (hm2.wider B1.out.size (Nat.le_refl _))
  have B2 := hide (B1.out.trans (hb2.mono B1.out.size))
  clear hm2 hb2
  go_wp2
  go_ret
  exact ⟨_, rfl, M2.out, B2.out⟩
end Go.Proofs.YtbgadbokejaomaaGreatDoor

namespace Go.Proofs.YtbgadbokejaomaaGreatDoor
open Go.RowKit

def encOk (m : List (List Int)) (q : Int) : Bool := codeOk (m.length : Int) q && piecesOk m
def encR (m : List (List Int)) (q : Int) : List (List Int) × Bool := if encOk m q = true then (mulM (codeM m.length q.toNat) m, true) else ([], false)
set_option maxRecDepth 100000 in
set_option maxHeartbeats 800000 in
theorem encodePieces_calls (v : Value) (m : List (List Int)) (q : Int) (w : World) (hT : Gf.Tab w) (h : RdM w v m) :
    Calls Tryz.prog 143 #[v, .int .i64 q] w fun e w' => ∃ v', e = .returned (.tuple #[v', .bool (encR m q).2]) ∧ Mat w' w.heap.size w'.heap.size v' (encR m q).1 ∧ Below w.heap.size w w' := by
  have R := hide h
  have T := hide hT
  obtain ⟨a, cap, rfl, _⟩ := h
  clear hT
  cases hc : codeOk (m.length : Int) q with
  | false =>
    have e : encR m q = ([], false) := by simp [encR, encOk, hc]
    rw [e]
    have C := hide hc
    clear hc e
    go_enter Tryz.func143, Tryz.ntmps143
    go_wp2_with fail
    refine (isCode_calls _ q _).mono ?_
    rw [C.out]
    rintro e w' ⟨rfl, rfl⟩
    go_wp2
    go_ret2
    exact ⟨_, rfl, Mat.nil _ _ _, Below.refl _ _⟩
  | true =>
    obtain ⟨f1, f2, f3, f4⟩ := codeOk_facts hc
    have C := hide hc
    cases hp : piecesOk m with
    | false =>
      have e : encR m q = ([], false) := by simp [encR, encOk, hp]
      rw [e]
      have PO := hide hp
      clear hc hp e
      go_enter Tryz.func143, Tryz.ntmps143
      go_wp2_with fail
      refine (isCode_calls _ q _).mono ?_
      rw [C.out]
      rintro e w' ⟨rfl, rfl⟩
      go_wp2_with fail
      refine (arePieces_calls _ m _ R.out).mono ?_
      rw [PO.out]
      rintro e w1 ⟨rfl, hb⟩
      have B := hide hb
      clear hb
      go_wp2
      go_ret2
      exact ⟨_, rfl, Mat.nil _ _ _, B.out⟩
    | true =>
      have e : encR m q = (mulM (codeM m.length q.toNat) m, true) := by simp [encR, encOk, hc, hp]
      rw [e]
      have PO := hide hp
      clear hc hp e
      obtain ⟨Q, rfl⟩ := Int.eq_ofNat_of_zero_le (show 0 ≤ q by omega)
      simp only [Int.toNat_natCast]
      go_enter Tryz.func143, Tryz.ntmps143
      go_wp2_with fail
      refine (isCode_calls _ _ _).mono ?_
      rw [C.out]
      rintro e w' ⟨rfl, rfl⟩
      go_wp2_with fail
      refine (arePieces_calls _ m _ R.out).mono ?_
      rw [PO.out]
      rintro e w1 ⟨rfl, hb⟩
      have B := hide hb
      clear hb
      go_wp2_with fail
      refine (encode_calls _ m Q _ (Gf.Tab.below T.out B.out) (R.out.below B.out) PO.out (by omega) (by omega) (by omega) (by omega)).mono ?_
      rintro e w2 ⟨v2, rfl, hm2, hb2⟩
      have M2 := hide (hm2.wider B.out.size (Nat.le_refl _))
      have B2 := hide (B.out.trans (hb2.mono B.out.size))
      clear hm2 hb2
      go_wp2
      go_ret2
      exact ⟨_, rfl, M2.out, B2.out⟩

end Go.Proofs.YtbgadbokejaomaaGreatDoor

/-
  Pieces encoded: the program's functions and its model's, call by call. The program's table of rests must hold its seven numbers where the program's own functions are called. EncodePieces: the program's function and its model's, at all arguments. The program's table of rests must hold its seven numbers where the program's own function is called. Blocks, elements and bodies: the program's blockOf, elementsOf, bodyOf, and these for each of a list. Each contract says what it asks.
-/
import Derived.Test.YtdoldboefceliaaGreatDoorReadStripeB19
import Derived.Test.YtdoldboefceliaaGreatDoorReadStripeB14
import Derived.Test.YtdoldboefceliaaGreatDoorReadStripeB15
import Derived.Test.YtdoldboefceliaaGreatDoorReadStripeB7
namespace Go.Proofs.YtdoldboefceliaaGreatDoor
open Go.RowKit
open Gf (ci nat amTo AllLt)

set_option maxRecDepth 100000 in
theorem l2Add_nil (sv qv : Value) (f : Int) (w : World) (hq : Rd w qv []) :
    Calls Tryz.prog 188 #[sv, qv, .int .i64 f] w fun e w' => e = .returned (.tuple #[]) ∧ w = w' := by
  obtain ⟨x, cap, rfl, h1, h2, h3⟩ := hq
  clear h1 h2 h3
  go_enter Tryz.func188, Tryz.ntmps188
  go_wp2
  go_loop [10] (fun vi => vi = .int .i64 0) (fun _ => 0)
  case atStart => rfl
  case round =>
    subst hrel
    go_wp2
    go_end0
    exact ⟨rfl, rfl⟩
theorem l2Add_any (sv qv : Value) (s q : List Nat) (F base : Nat) (w : World) (hs : Own w base sv (ci s)) (hq : ∀ w', w.grownBy w' sv.ownBlock → Rd w' qv (ci q))
    (hf : F < 256) (hfit : q.length ≤ s.length) (hsl : s.length ≤ 1048576) (hsa : AllLt s) (hqa : AllLt q) :
    Calls Tryz.prog 188 #[sv, qv, .int .i64 F] w fun e w' => e = .returned (.tuple #[]) ∧ Own w' base sv (ci (amTo s q F 0 q.length)) ∧ w.grownBy w' sv.ownBlock := by
  by_cases h0 : 0 < s.length
  · exact Gf.l2Add_calls sv qv s q F base w hs hq hf hfit hsl hsa hqa h0
  · have hq0 : q = [] := List.eq_nil_of_length_eq_zero (by omega)
    subst hq0
    refine (l2Add_nil sv qv F w (hq w (World.grownBy.refl _ _))).mono ?_
    rintro e w' ⟨rfl, rfl⟩
    exact ⟨rfl, hs, World.grownBy.refl _ _⟩

set_option maxRecDepth 100000 in
set_option maxHeartbeats 1600000 in
theorem l3Times_calls (av bv : Value) (a b : List (List Int)) (l : Nat) (w : World) (ha : RdM w av a) (hb : RdM w bv b) (hf : Fit a b l) :
    Calls Tryz.prog 146 #[av, bv] w fun e w' => ∃ v', e = .returned v' ∧ Mat w' w.heap.size w'.heap.size v' (mulM a b) ∧ Below w.heap.size w w' := by
  have RA := hide ha
  have RB := hide hb
  have FI := hide hf
  obtain ⟨aa, acap, rfl, _⟩ := ha
  obtain ⟨ba, bcap, rfl, _⟩ := hb
  have hal8 : a.length ≤ 4096 := hf.aN
  have hbl : 1 ≤ b.length := hf.b1
  have hbl8 : b.length ≤ 4096 := hf.bN
  have hl8 : l ≤ 4096 := hf.lN
  have hl : l = (b.getD 0 []).length := (hf.br 0 (by omega)).1.symm
  have HL := hide hl
  have hbl' : (0 : Int) < (b.length : Int) := by omega
  obtain ⟨bb, boff, bu0, rfl, hbb0, hbc0, hbu0⟩ := RB.out.rowAt 0 (by omega)
  rw [Nat.add_zero] at hbc0
  obtain ⟨bua, bucap, hbu, _⟩ := hbu0
  rw [← HL.out] at hbu
  subst hbu
  have BC0 := hide hbc0
  obtain ⟨P, hP⟩ : ∃ P, P = mulM a b := ⟨_, rfl⟩
  rw [← hP]
  have hPl : P.length = a.length := by rw [hP, mulM_length]
  have hPg : ∀ k, k < a.length → P.getD k [] = ci (mulRow (b.map nat) l (nat (a.getD k [])) (a.getD k []).length) := fun k hk => by rw [hP, mulM_get _ _ _ hk, HL.out]
  have PL := hide hPl
  have PG := hide hPg
  clear hl hf hbc0 hP hPl hPg
  go_enter Tryz.func146, Tryz.ntmps146
  go_wp2
  go_loopw [5, 13] (fun vo vi wr => ∃ (k : Nat) (vs : List Value), k ≤ a.length ∧ vi = .int .i64 k ∧ MatV wr w.heap.size wr.heap.size vo vs (P.take k) ∧ Below w.heap.size w wr) (fun _ vi _ => a.length - (intOf vi).toNat)
  case atStart =>
    obtain ⟨vs, hv⟩ := Mat.nil w w.heap.size w.heap.size
    exact ⟨0, vs, Nat.zero_le _, rfl, hv, Below.refl _ _⟩
  case round =>
    obtain ⟨k, vs, hk, rfl, hm, hb⟩ := hrel
    have M := hide hm
    have B := hide hb
    clear hm hb
    by_cases hlt : k < a.length
    · have hlt' : (k : Int) < (a.length : Int) := by omega
      obtain ⟨ab, aoff, au, rfl, hab1, hac, hau⟩ := RA.out.rowAt k hlt
      obtain ⟨r, hr⟩ : ∃ r, r = a.getD k [] := ⟨_, rfl⟩
      rw [← hr] at hau
      have hrl : r.length = b.length := by rw [hr, (FI.out.ar k hlt).1]
      have hre : r.all Gf.elOk = true := by rw [hr]; exact (FI.out.ar k hlt).2
      have hpg := PG.out k hlt
      rw [← hr, hrl] at hpg
      have hnext : P.take k ++ [ci (mulRow (b.map nat) l (nat r) b.length)] = P.take (k + 1) := by
        rw [take_snocM P [] k (by rw [PL.out]; exact hlt), hpg]
      have NX := hide hnext
      have RE := hide hre
      clear hr hpg hre hnext
      have hac2 : wr.cell? ⟨ab, aoff + k, none⟩ = some au := (B.out.cell (p := ⟨ab, aoff + k, none⟩) hab1).trans hac
      have hbc2 : wr.cell? ⟨bb, boff, none⟩ = _ := (B.out.cell (p := ⟨bb, boff, none⟩) hbb0).trans BC0.out
      have AU := hide hau
      obtain ⟨aua, auc, hauv, _⟩ := hau
      rw [hrl] at hauv
      subst hauv
      have RL := hide hrl
      obtain ⟨W1, rfl⟩ : ∃ W1, W1 = wr := ⟨_, rfl⟩
      have s1 := B.out.size
      clear hac hrl
      go_wp2_with (at_make; refine wpList_make_ints rfl _ _ rfl W1.heap.size _ _ l rfl rfl (by omega) (by omega) (by omega) (Nat.le_refl _) ?_)
      intro w1 hx hg1
      have hb1 : Below W1.heap.size W1 w1 := (Below.refl _ _).grown hg1 (Nat.le_refl _) (fun k h => by cases h)
      have OX := hide hx
      have BX := hide hb1
      clear hx hg1 hb1
      go_wp2
      go_loopw [24] (fun vi wr2 => ∃ (j : Nat), j ≤ b.length ∧ vi = .int .i64 j ∧ Own wr2 W1.heap.size (.slice (some ⟨W1.heap.size, 0, none⟩) l l) (ci (mulRow (b.map nat) l (nat r) j)) ∧ Below W1.heap.size W1 wr2) (fun vi _ => b.length - (intOf vi).toNat)
      case atStart =>
        refine ⟨0, Nat.zero_le _, rfl, ?_, BX.out⟩
        rw [mulRow, Gf.ci_zeros]
        exact OX.out
      case round =>
        obtain ⟨j, hj, rfl, ho, hb2⟩ := hrel
        have O := hide ho
        have B2 := hide hb2
        have BW := hide (B.out.trans (B2.out.mono s1))
        clear ho hb2
        by_cases hltj : j < b.length
        · have hltj' : (j : Int) < (b.length : Int) := by omega
          obtain ⟨bb', boff', bu, hbb', hbb1, hbc, hbu⟩ := RB.out.rowAt j hltj
          simp only [Option.some.injEq, Addr.mk.injEq, and_true] at hbb'
          obtain ⟨rfl, rfl⟩ := hbb'
          have hbc3 : wr.cell? ⟨bb, boff + j, none⟩ = some bu := (BW.out.cell (p := ⟨bb, boff + j, none⟩) hbb1).trans hbc
          obtain ⟨q, hq⟩ : ∃ q, q = nat (b.getD j []) := ⟨_, rfl⟩
          have hqe := (FI.out.br j hltj).2
          have hql : q.length = l := by rw [hq, Gf.nat_length, (FI.out.br j hltj).1]
          have hqlt : AllLt q := by rw [hq]; exact Gf.nat_lt hqe
          rw [← Gf.ci_nat hqe, ← hq] at hbu
          have hq2 : (b.map nat).getD j [] = q := by rw [natM_get, hq]
          obtain ⟨rb, roff, ru, rfl, hrc, hru⟩ := (AU.out.below BW.out).row j (by rw [RL.out]; omega)
          obtain ⟨x, hx⟩ : ∃ x, x = (nat r).getD j 0 := ⟨_, rfl⟩
          have hx2 : r.getD j 0 = ((x : Nat) : Int) := by
            have := Gf.ci_getD (nat r) j
            rw [Gf.ci_nat RE.out] at this
            rw [this, hx]
          rw [hx2] at hru
          subst hru
          have hx256 : x < 256 := by rw [hx]; exact Gf.nat_lt RE.out j
          obtain ⟨s, hs⟩ : ∃ s, s = mulRow (b.map nat) l (nat r) j := ⟨_, rfl⟩
          have hsl : s.length = l := by rw [hs, mulRow_length]
          have hslt : AllLt s := by rw [hs]; exact mulRow_lt (Gf.nat_lt RE.out) j
          have hnext : mulRow (b.map nat) l (nat r) (j + 1) = amTo s q x 0 q.length := by rw [mulRow, hq2, ← hs, ← hx]
          have ho := O.out
          rw [← hs] at ho
          have OS := hide ho
          have NX2 := hide hnext
          have BU := hide hbu
          have QL := hide hql
          have QLT := hide hqlt
          have SL := hide hsl
          have SLT := hide hslt
          have QG : Hid (∀ w', wr.grownBy w' (Value.slice (some ⟨W1.heap.size, 0, none⟩) l l).ownBlock → Rd w' bu (ci q)) := fun w' hg => BU.out.below (BW.out.grown hg BW.out.size (fun k hk => by have := (World.ownsRow.lt OS.out k hk).1; omega))
          clear hnext hbu hql hqlt hsl hslt hq hqe hq2 hx hx2 hs hbc ho
          go_wp2_with fail
          refine (l2Add_any _ bu s q x W1.heap.size _ OS.out QG.out hx256 (by rw [QL.out, SL.out]; exact Nat.le_refl _) (by rw [SL.out]; omega) SLT.out QLT.out).mono ?_
          rintro e w3 ⟨rfl, ho3, hg3⟩
          rw [← NX2.out] at ho3
          have O3 := hide ho3
          have B3 := hide (B2.out.grown hg3 B2.out.size (fun k hk => (World.ownsRow.lt OS.out k hk).1))
          clear ho3 hg3
          go_wp2
          go_roundw
          case rel => exact ⟨j + 1, by omega, by go_num, O3.out, B3.out⟩
          case measure => simp [intOf]; omega
        · obtain rfl : j = b.length := by omega
          go_wp2_with (at_builtin; refine wpList_append_row rfl _ _ rfl w.heap.size W1.heap.size _ vs (P.take k) rfl M.out (B2.out.alloc B2.out.size _) _ _ (O.out.below ((Below.refl _ _).alloc (Nat.le_refl _) _)) (Nat.le_refl _) s1 _ rfl (World.cell?_alloc_at _ _ _ _ (by simp)) (by simp; omega) ?_)
          intro v2 w2 hM2 hB2
          rw [NX.out] at hM2
          have M2 := hide hM2
          have B3 := hide hB2
          clear hM2 hB2
          go_wp2
          go_roundw
          case rel => exact ⟨k + 1, _, by omega, by go_num, M2.out, B.out.trans B3.out⟩
          case measure => simp [intOf]; omega
    · obtain rfl : k = a.length := by omega
      go_wp2
      go_ret
      have hm := M.out
      rw [List.take_of_length_le (by rw [PL.out]; exact Nat.le_refl _)] at hm
      exact ⟨_, rfl, ⟨_, hm⟩, B.out⟩

theorem fit_code {m : List (List Int)} {q : Nat} (hp : piecesOk m = true) (h1 : 1 ≤ m.length) (h2 : m.length ≤ 6) (h3 : 1 ≤ q) (h4 : q ≤ 4) : Fit (codeM m.length q) m (m.getD 0 []).length := by
  have f := piecesOk_at hp
  have f0 := f 0 (by omega)
  exact ⟨by rw [codeM_length]; omega, by rw [codeM_length]; omega, h1, by omega, by omega, codeM_rows _ _, fun i hi => ⟨(f i hi).1, (f i hi).2.2⟩⟩

set_option maxRecDepth 100000 in
set_option maxHeartbeats 800000 in
theorem encode_calls (v : Value) (m : List (List Int)) (q : Nat) (w : World) (hT : Gf.Tab w) (h : RdM w v m) (hp : piecesOk m = true) (h1 : 1 ≤ m.length) (h2 : m.length ≤ 6) (h3 : 1 ≤ q) (h4 : q ≤ 4) :
    Calls Tryz.prog 131 #[v, .int .i64 q] w fun e w' => ∃ v', e = .returned v' ∧ Mat w' w.heap.size w'.heap.size v' (mulM (codeM m.length q) m) ∧ Below w.heap.size w w' := by
  have R := hide h
  have T := hide hT
  have FI := hide (fit_code hp h1 h2 h3 h4)
  obtain ⟨a, cap, rfl, _⟩ := h
  clear hT hp
  go_enter Tryz.func131, Tryz.ntmps131
  go_wp2_with fail
  refine (codeRows_calls m.length q _ T.out h1 h2 h3 h4).mono ?_
  rintro e w1 ⟨v1, rfl, hm1, hb1⟩
  have R1 := hide hm1.rd
  have B1 := hide hb1
  clear hm1 hb1
  go_wp2_with fail
  refine (productOf_calls _ _ (codeM m.length q) m _ _ (Gf.Tab.below T.out B1.out) R1.out (R.out.below B1.out) FI.out).mono ?_
  rintro e w2 ⟨v2, rfl, hm2, hb2⟩
  have M2 := hide (hm2.wider B1.out.size (Nat.le_refl _))
  have B2 := hide (B1.out.trans (hb2.mono B1.out.size))
  clear hm2 hb2
  go_wp2
  go_ret
  exact ⟨_, rfl, M2.out, B2.out⟩

set_option maxRecDepth 100000 in
set_option maxHeartbeats 800000 in
theorem l3Encode_calls (v : Value) (m : List (List Int)) (q : Nat) (w : World) (h : RdM w v m) (hp : piecesOk m = true) (h1 : 1 ≤ m.length) (h2 : m.length ≤ 6) (h3 : 1 ≤ q) (h4 : q ≤ 4) :
    Calls Tryz.prog 109 #[v, .int .i64 q] w fun e w' => ∃ v', e = .returned v' ∧ Mat w' w.heap.size w'.heap.size v' (mulM (codeM m.length q) m) ∧ Below w.heap.size w w' := by
  have R := hide h
  have FI := hide (fit_code hp h1 h2 h3 h4)
  obtain ⟨a, cap, rfl, _⟩ := h
  clear hp
  go_enter Tryz.func109, Tryz.ntmps109
  go_wp2_with fail
  refine (l3Matrix_calls m.length q _ h1 h2 h3 h4).mono ?_
  rintro e w1 ⟨v1, rfl, hm1, hb1⟩
  have R1 := hide hm1.rd
  have B1 := hide hb1
  clear hm1 hb1
  go_wp2_with fail
  refine (l3Times_calls _ _ (codeM m.length q) m _ _ R1.out (R.out.below B1.out) FI.out).mono ?_
  rintro e w2 ⟨v2, rfl, hm2, hb2⟩
  have M2 := hide (hm2.wider B1.out.size (Nat.le_refl _))
  have B2 := hide (B1.out.trans (hb2.mono B1.out.size))
  clear hm2 hb2
  go_wp2
  go_ret
  exact ⟨_, rfl, M2.out, B2.out⟩
end Go.Proofs.YtdoldboefceliaaGreatDoor

namespace Go.Proofs.YtdoldboefceliaaGreatDoor
open Go.RowKit

def encOk (m : List (List Int)) (q : Int) : Bool := codeOk (m.length : Int) q && piecesOk m
def encR (m : List (List Int)) (q : Int) : List (List Int) × Bool := if encOk m q = true then (mulM (codeM m.length q.toNat) m, true) else ([], false)
theorem mul_tot {a b : List (List Int)} {l : Nat} (h : Fit a b l) (ha : a.length ≤ 16) (hl : l ≤ 64) : (mulM a b).length + tot (mulM a b) ≤ 1048576 := by
  have : ∀ k, k ≤ a.length → tot ((mulM a b).take k) ≤ 64 * k := by
    intro k
    induction k with
    | zero => intro _; simp [tot]
    | succ k ih =>
      intro hk
      rw [tot_take_succ _ k (by rw [mulM_length]; omega), mulM_get _ _ k (by omega), Gf.ci_length, mulRow_length, (h.br 0 h.b1).1]
      have := ih (by omega)
      omega
  have := this a.length (Nat.le_refl _)
  rw [List.take_of_length_le (by rw [mulM_length]; exact Nat.le_refl _)] at this
  rw [mulM_length]
  omega
theorem encR_tot (m : List (List Int)) (q : Int) : (encR m q).1.length + tot (encR m q).1 ≤ 1048576 := by
  unfold encR
  split
  · rename_i h
    simp only [encOk, Bool.and_eq_true] at h
    obtain ⟨h1, h2, h3, h4⟩ := codeOk_facts h.1
    have f0 := piecesOk_at h.2 0 (by omega)
    exact mul_tot (fit_code h.2 (by omega) (by omega) (by omega) (by omega)) (by rw [codeM_length]; omega) (by omega)
  · simp [tot]

set_option maxRecDepth 100000 in
set_option maxHeartbeats 800000 in
theorem encodePieces_calls (v : Value) (m : List (List Int)) (q : Int) (w : World) (hT : Gf.Tab w) (h : RdM w v m) :
    Calls Tryz.prog 84 #[v, .int .i64 q] w fun e w' => ∃ v', e = .returned (.tuple #[v', .bool (encR m q).2]) ∧ Mat w' w.heap.size w'.heap.size v' (encR m q).1 ∧ Below w.heap.size w w' := by
  have R := hide h
  have T := hide hT
  obtain ⟨a, cap, rfl, _⟩ := h
  clear hT
  cases hc : codeOk (m.length : Int) q with
  | false =>
    have e : encR m q = ([], false) := by simp [encR, encOk, hc]
    rw [e]
    have C := hide hc
    clear hc e
    go_enter Tryz.func84, Tryz.ntmps84
    go_wp2_with fail
    refine (isCode_calls _ q _).mono ?_
    rw [C.out]
    rintro e w' ⟨rfl, rfl⟩
    go_wp2
    go_ret2
    exact ⟨_, rfl, Mat.nil _ _ _, Below.refl _ _⟩
  | true =>
    obtain ⟨f1, f2, f3, f4⟩ := codeOk_facts hc
    have C := hide hc
    cases hp : piecesOk m with
    | false =>
      have e : encR m q = ([], false) := by simp [encR, encOk, hp]
      rw [e]
      have PO := hide hp
      clear hc hp e
      go_enter Tryz.func84, Tryz.ntmps84
      go_wp2_with fail
      refine (isCode_calls _ q _).mono ?_
      rw [C.out]
      rintro e w' ⟨rfl, rfl⟩
      go_wp2_with fail
      refine (arePieces_calls _ m _ R.out).mono ?_
      rw [PO.out]
      rintro e w1 ⟨rfl, hb⟩
      have B := hide hb
      clear hb
      go_wp2
      go_ret2
      exact ⟨_, rfl, Mat.nil _ _ _, B.out⟩
    | true =>
      have e : encR m q = (mulM (codeM m.length q.toNat) m, true) := by simp [encR, encOk, hc, hp]
      rw [e]
      have PO := hide hp
      clear hc hp e
      obtain ⟨Q, rfl⟩ := Int.eq_ofNat_of_zero_le (show 0 ≤ q by omega)
      simp only [Int.toNat_natCast]
      go_enter Tryz.func84, Tryz.ntmps84
      go_wp2_with fail
      refine (isCode_calls _ _ _).mono ?_
      rw [C.out]
      rintro e w' ⟨rfl, rfl⟩
      go_wp2_with fail
      refine (arePieces_calls _ m _ R.out).mono ?_
      rw [PO.out]
      rintro e w1 ⟨rfl, hb⟩
      have B := hide hb
      clear hb
      go_wp2_with fail
      refine (encode_calls _ m Q _ (Gf.Tab.below T.out B.out) (R.out.below B.out) PO.out (by omega) (by omega) (by omega) (by omega)).mono ?_
      rintro e w2 ⟨v2, rfl, hm2, hb2⟩
      have M2 := hide (hm2.wider B.out.size (Nat.le_refl _))
      have B2 := hide (B.out.trans (hb2.mono B.out.size))
      clear hm2 hb2
      go_wp2
      go_ret2
      exact ⟨_, rfl, M2.out, B2.out⟩

end Go.Proofs.YtdoldboefceliaaGreatDoor

namespace Go.Proofs.YtdoldboefceliaaGreatDoor
open Go.RowKit
open Gf (ci nat)
set_option linter.unusedVariables false

/-- A block: a byte of the text's length, the text, noughts: 48 in all. -/
def blk (S : ByteArray) : List Nat := S.size :: (bs S ++ List.replicate (47 - S.size) 0)
theorem blk_length {S : ByteArray} (h : S.size ≤ 47) : (blk S).length = 48 := by
  unfold blk
  rw [List.length_cons, List.length_append, bs_length, List.length_replicate]
  omega
theorem blk_small {S : ByteArray} (h : S.size ≤ 47) : ∀ b ∈ blk S, b < 256 := by
  intro b hb
  unfold blk at hb
  rcases List.mem_cons.1 hb with hb | hb
  · omega
  · rcases List.mem_append.1 hb with hb | hb
    · exact bs_lt S b hb
    · simp only [List.mem_replicate] at hb
      omega
theorem rep0 (c : Nat) : (⟨(Go.Lib.repeatL (⟨#[0]⟩ : ByteArray).data.toList c).toArray⟩ : ByteArray) = ofN (List.replicate c 0) := by
  have := Go.Lib.repeatL_replicate 0 1 c
  simp only [List.replicate_one, Nat.mul_one] at this
  unfold ofN
  congr 1
  show (Go.Lib.repeatL [0] c).toArray = _
  rw [this, List.map_replicate]
  rfl
theorem RdT.slB {w : World} {v : Value} {xs : List ByteArray} (h : RdT w v xs) : ∃ a cap, v = .slice a xs.length cap ∧ xs.length ≤ cap := by
  obtain ⟨a, cap, rfl, h1, _⟩ := h
  exact ⟨a, cap, rfl, h1⟩
theorem RdT.cellB {w : World} {a : Option Addr} {n cap : Nat} {xs : List ByteArray} (h : RdT w (.slice a n cap) xs) (i : Nat) (hi : i < xs.length) : ∃ b off, a = some ⟨b, off, none⟩ ∧ w.cell? ⟨b, off + i, none⟩ = some (.string (xs.getD i ⟨#[]⟩)) := by
  obtain ⟨a', cap', e, h1, h2, h4, h3⟩ := h
  simp only [Value.slice.injEq] at e
  obtain ⟨rfl, _, rfl⟩ := e
  rcases h3 with h3 | ⟨b, off, rfl, hlt, hc⟩
  · subst h3; simp at hi
  · exact ⟨b, off, rfl, hc i hi⟩
/-- What is laid so far. -/
def padU (us : List Value) (n : Nat) : List Value := us ++ List.replicate (n - us.length) nilRow
theorem padU_length (us : List Value) (n : Nat) (h : us.length ≤ n) : (padU us n).length = n := by simp [padU]; omega
theorem padU_set (us : List Value) (n : Nat) (u : Value) (h : us.length < n) : (padU us n).set us.length u = padU (us ++ [u]) n := by
  unfold padU
  obtain ⟨k, hk⟩ : ∃ k, n - us.length = k + 1 := ⟨n - us.length - 1, by omega⟩
  have hk2 : n - (us ++ [u]).length = k := by simp; omega
  rw [hk, hk2, List.replicate_succ, List.set_append_right _ _ (Nat.le_refl _), Nat.sub_self, List.set_cons_zero, List.append_assoc]
  rfl

set_option maxRecDepth 100000 in
set_option maxHeartbeats 800000 in
theorem blockOf_calls (S : ByteArray) (w : World) (hS : S.size ≤ 47) :
    Calls Tryz.prog 83 #[.string S] w fun e w' => e = .returned (.string (ofN (blk S))) ∧ Below w.heap.size w w' := by
  have B0 := hide (below_box w (.cells #[.int .u8 (S.size : Int)] 5))
  have hbt := byte_text S.size (by omega) w
  have e1 : ofN [S.size] ++ S = ofN (S.size :: bs S) := by
    have := ofN_append [S.size] (bs S)
    rw [ofN_bs] at this
    exact this
  have RP := hide (fun W => Tryz.strings_Repeat ⟨#[0]⟩ (47 - S.size) W (by omega) (by show 1 * _ ≤ _; omega))
  have E5 : Hid ((47 : Int) - (S.size : Int) = ((47 - S.size : Nat) : Int)) := by show _ = _; omega
  have hadd := run_string_add_sum (P := Tryz.prog) (w := w.alloc (.cells #[.int .u8 (S.size : Int)] 5)) (ofN [S.size]) S (by rw [ofN_size]; simp; omega)
  rw [e1] at hadd
  clear e1
  go_enter Tryz.func83, Tryz.ntmps83
  go_wp2_with fail
  rw [E5.out]
  refine (RP.out _).mono ?_
  rintro e w1 ⟨rfl, q⟩
  rw [rep0]
  have B1 := hide (B0.out.trans (q.mono (by simp)))
  clear q hadd hbt
  have hadd2 := run_string_add_sum (P := Tryz.prog) (w := w1) (ofN (S.size :: bs S)) (ofN (List.replicate (47 - S.size) 0)) (by rw [ofN_size, ofN_size, List.length_cons, List.length_replicate, bs_length]; omega)
  rw [ofN_append] at hadd2
  go_wp2
  go_ret
  exact ⟨rfl, B1.out⟩

set_option maxRecDepth 100000 in
set_option maxHeartbeats 800000 in
theorem elementsOf_calls (S : ByteArray) (w : World) (hS : S.size ≤ 4096) :
    Calls Tryz.prog 86 #[.string S] w fun e w' => ∃ v', e = .returned v' ∧ Own w' w.heap.size v' (ci (bs S)) ∧ Below w.heap.size w w' := by
  have hl : (ci (bs S)).length = S.size := by rw [Gf.ci_length, bs_length]
  have HL := hide hl
  clear hl
  go_enter Tryz.func86, Tryz.ntmps86
  go_wp2_with (at_make; refine wpList_make_ints rfl _ _ rfl w.heap.size _ _ S.size rfl rfl (by omega) (by omega) (by omega) (Nat.le_refl _) ?_)
  intro w0 ho0 hg0
  have hb0 : Below w.heap.size w w0 := (Below.refl _ _).grown hg0 (Nat.le_refl _) (fun k h => by cases h)
  have O0 := hide ho0
  have B0 := hide hb0
  clear ho0 hg0 hb0
  go_wp2
  go_loopw [4, 10] (fun _ vi wr => ∃ k : Nat, k ≤ S.size ∧ vi = .int .i64 k ∧ Own wr w.heap.size (.slice (some ⟨w.heap.size, 0, none⟩) S.size S.size) (cpTo (ci (bs S)) k) ∧ Below w.heap.size w wr) (fun _ vi _ => S.size - (intOf vi).toNat)
  case atStart =>
    refine ⟨0, Nat.zero_le _, rfl, ?_, B0.out⟩
    rw [cpTo_zero, HL.out]
    exact O0.out
  case round =>
    obtain ⟨k, hk, rfl, ho, hb⟩ := hrel
    by_cases hlt : k < S.size
    · have hlt' : (k : Int) < (S.size : Int) := by omega
      have hcl : (cpTo (ci (bs S)) k).length = S.size := by rw [cpTo_length _ k (by rw [HL.out]; exact hk), HL.out]
      obtain ⟨hfz, hcell⟩ := ho.at k (by rw [hcl]; exact hlt)
      obtain ⟨old, hold⟩ : ∃ o, o = (cpTo (ci (bs S)) k).getD k 0 := ⟨_, rfl⟩
      rw [← hold] at hcell
      obtain ⟨byt, hbz⟩ : ∃ byt, byt = S[k].toNat := ⟨_, rfl⟩
      have hb256 : byt < 256 := by rw [hbz]; exact (S[k]).toNat_lt
      have hbyt : byt = (bs S).getD k 0 := by rw [hbz]; exact (bs_getD S k hlt).symm
      have hbz' := hbz.symm
      have hst : (cpTo (ci (bs S)) k).set k (byt : Int) = cpTo (ci (bs S)) (k + 1) := by
        have := cpTo_step (ci (bs S)) k (by rw [HL.out]; exact hlt)
        rw [Gf.ci_getD, ← hbyt] at this
        exact this
      have W := hide (ho.put k (byt : Int))
      have ST := hide hst
      have B := hide hb
      clear hold ho hb hst hcl hbyt hbz
      go_wp2
      go_roundw
      case rel =>
        refine ⟨k + 1, by omega, by go_num, ?_, B.out.setCell (Nat.le_refl _) _⟩
        have := W.out.1
        rw [ST.out] at this
        exact this
      case measure => simp [intOf]; omega
    · obtain rfl : k = S.size := by omega
      have h := ho
      have e := cpTo_end (ci (bs S))
      rw [HL.out] at e
      rw [e] at h
      have O := hide h
      have B := hide hb
      clear ho hb h e
      go_wp2
      go_ret
      exact ⟨_, rfl, O.out, B.out⟩

set_option maxRecDepth 100000 in
set_option maxHeartbeats 800000 in
theorem bodyOf_calls (v : Value) (l : List Nat) (w : World) (h : Rd w v (ci l)) (hl : ∀ b ∈ l, b < 256) (hn : l.length ≤ 4096) :
    Calls Tryz.prog 91 #[v] w fun e w' => e = .returned (.string (ofN l)) ∧ Below w.heap.size w w' := by
  obtain ⟨a, cap, hv, m1, m2, m3⟩ := h
  rw [Gf.ci_length] at hv m3
  subst hv
  have M3 := hide m3
  have HL := hide hl
  clear m1 m2 m3 hl
  go_enter Tryz.func91, Tryz.ntmps91
  go_wp2_with (at_make; refine wpList_make_bytes rfl _ _ rfl w.heap.size _ _ l.length rfl rfl (by omega) (by omega) (by omega) (Nat.le_refl _) ?_)
  intro w2 hown hgrow
  have Z2 := hide (zrow_made hown)
  have B2 := hide (grown_none hgrow)
  clear hown hgrow
  go_wp2
  go_loopw [4, 5, 11] (fun _ _ vi wr => ∃ k : Nat, k ≤ l.length ∧ vi = .int .i64 k ∧ ZRow wr w.heap.size (l.take k ++ List.replicate (l.length - k) 0) ∧ Below w.heap.size w wr) (fun _ _ vi _ => l.length - (intOf vi).toNat)
  case atStart => exact ⟨0, Nat.zero_le _, rfl, by simpa using Z2.out, B2.out⟩
  case round =>
    obtain ⟨k, hk, rfl, hz, hb⟩ := hrel
    have HB := hide hb
    have HZ := hide hz
    by_cases hlt : k < l.length
    · have hlt' : (k : Int) < (l.length : Int) := by omega
      rcases M3.out with h3 | ⟨b, off, rfl, hbs, hc⟩
      · have : l = [] := by simpa [ci] using h3
        rw [this] at hlt
        simp at hlt
      have hck : wr.cell? ⟨b, off + k, none⟩ = some (.int .i64 ((l.getD k 0 : Nat) : Int)) := by
        rw [← Gf.ci_getD]
        exact (hb.cell (p := ⟨b, off + k, none⟩) hbs).trans (hc k hlt)
      have hx256 : l.getD k 0 < 256 := by
        rw [List.getD_eq_getElem?_getD, List.getElem?_eq_getElem hlt]
        exact HL.out _ (List.getElem_mem hlt)
      have hst : (l.take k ++ List.replicate (l.length - k) 0).set k (l.getD k 0) = l.take (k + 1) ++ List.replicate (l.length - (k + 1)) 0 := by
        obtain ⟨n, hn'⟩ : ∃ n, l.length - k = n + 1 := ⟨l.length - k - 1, by omega⟩
        have hn2 : l.length - (k + 1) = n := by omega
        rw [hn', hn2, List.replicate_succ, List.set_append_right _ _ (by simp; omega), List.take_succ_eq_append_getElem hlt, List.append_assoc]
        have e2 : k - (l.take k).length = 0 := by simp; omega
        rw [e2, List.set_cons_zero, List.getD_eq_getElem?_getD, List.getElem?_eq_getElem hlt]
        rfl
      have c0 := hz.cell k (by simp; omega)
      have f0 := hz.frozen k
      have ST := hide hst
      generalize l.getD k 0 = x at hck hx256 ST
      have SZ := hide (HZ.out.set k x)
      generalize (l.take k ++ List.replicate (l.length - k) 0).getD k 0 = old at c0
      clear hc hz hb hst HZ
      go_wp2
      go_roundw
      case rel =>
        refine ⟨k + 1, by omega, by go_num, ?_, HB.out.setCell (Nat.le_refl _) _⟩
        have := SZ.out
        rw [ST.out] at this
        exact this
      case measure => simp [intOf]; omega
    · obtain rfl : k = l.length := by omega
      have hz2 : ZRow wr w.heap.size l := by simpa using hz
      have hcv := hz2.conv (n := l.length) (cap := l.length) HL.out (Nat.le_refl _)
      rw [List.take_of_length_le (Nat.le_refl _)] at hcv
      clear hz hz2 hb HZ
      go_wp2
      go_ret
      exact ⟨rfl, HB.out⟩

set_option maxRecDepth 100000 in
set_option maxHeartbeats 1600000 in
theorem eachElems_calls (v : Value) (xs : List ByteArray) (w : World) (h : RdT w v xs) (hz : ∀ i, i < xs.length → (xs.getD i ⟨#[]⟩).size ≤ 4096) (hn : xs.length ≤ 4096) :
    Calls Tryz.prog 85 #[v, .func (.func 86) #[] #[]] w fun e w' => ∃ v', e = .returned v' ∧ RdM w' v' (xs.map (fun s : ByteArray => ci (bs s))) ∧ Below w.heap.size w w' := by
  have R := hide h
  have SZ := hide hz
  obtain ⟨m, hm⟩ : ∃ m, m = xs.map (fun s : ByteArray => ci (bs s)) := ⟨_, rfl⟩
  have ml : m.length = xs.length := by rw [hm, List.length_map]
  have mg : ∀ k, k < xs.length → m.getD k [] = (fun s : ByteArray => ci (bs s)) (xs.getD k ⟨#[]⟩) := fun k hk => by
    rw [hm]
    simp only [List.getD_eq_getElem?_getD]
    rw [List.getElem?_map, List.getElem?_eq_getElem hk]
    rfl
  rw [← hm]
  have ML := hide ml
  have MG := hide mg
  obtain ⟨a, cap, rfl, m1⟩ := h.slB
  clear h hm ml mg m1
  go_enter Tryz.func85, Tryz.ntmps85
  go_wp2_with (at_make; refine wpList_make_rows rfl _ _ rfl _ _ xs.length rfl rfl (by omega) (by omega) (by omega) ?_)
  intro w0 hm0 hg0
  have M0 := hide hm0.head
  have B0 := hide ((Below.refl w.heap.size w).grown hg0 (Nat.le_refl _) (fun k h => by cases h))
  clear hm0 hg0
  go_wp2
  go_loopw [6, 7, 13] (fun _ _ vi wr => ∃ us : List Value, us.length ≤ xs.length ∧ vi = .int .i64 us.length ∧ wr.ownsRow w.heap.size 27 1 (.slice (some ⟨w.heap.size, 0, none⟩) xs.length xs.length) xs.length (padU us xs.length) ∧ (∀ i, i < us.length → Own wr (w.heap.size + 1) (us.getD i nilRow) (m.getD i [])) ∧ Below w.heap.size w wr) (fun _ _ vi _ => xs.length - (intOf vi).toNat)
  case atStart =>
    refine ⟨[], Nat.zero_le _, rfl, ?_, fun i hi => by simp at hi, B0.out⟩
    have := M0.out
    rw [List.length_replicate] at this
    exact this
  case round =>
    obtain ⟨us, hk, rfl, ho, hus, hb⟩ := hrel
    have O := hide ho
    have US := hide hus
    have B := hide hb
    clear ho hus hb
    by_cases hlt : us.length < xs.length
    · have hlt' : (us.length : Int) < (xs.length : Int) := by omega
      have hd1 : w.heap.size + 1 ≤ wr.heap.size := (World.ownsRow.lt O.out w.heap.size rfl).2
      obtain ⟨gb, off, rfl, hc⟩ := (R.out.below B.out).cellB us.length hlt
      have G := hide (MG.out us.length hlt)
      have hsz := SZ.out us.length hlt
      generalize xs.getD us.length ⟨#[]⟩ = z at hc G hsz
      go_wp2_with fail
      refine (elementsOf_calls z _ hsz).mono ?_
      rintro e w1 ⟨x, rfl, hx, q⟩
      rw [← G.out] at hx
      have X := hide hx
      obtain ⟨xa, xc, rfl⟩ := row_slice hx
      have O1 := hide (ownsRow_below O.out q)
      have B1 := hide (B.out.trans (q.mono B.out.size))
      have US1 : Hid (∀ i, i < us.length → Own w1 (w.heap.size + 1) (us.getD i nilRow) (m.getD i [])) := fun i hi => (US.out i hi).below q
      clear hx q hc
      generalize hxn : (m.getD us.length []).length = xn at *
      have XN := hide hxn
      clear hxn
      have hpl : us.length < (padU us xs.length).length := by rw [padU_length _ _ hk]; exact hlt
      have hc2 : w1.frozen? ⟨w.heap.size, us.length, none⟩ = false := O1.out.frozenAt us.length
      obtain ⟨old, hc3⟩ : ∃ old, w1.cell? ⟨w.heap.size, us.length, none⟩ = some old := by
        rw [O1.out.cellAt us.length (by omega)]
        exact ⟨_, List.getElem?_eq_getElem hpl⟩
      have ST := hide (O1.out.stored us.length (.slice xa xn xc))
      clear O US G
      go_wp2
      go_roundw
      case rel =>
        refine ⟨us ++ [.slice xa xn xc], by simp; omega, by simp, ?_, fun i hi => ?_, B1.out.setCell (Nat.le_refl _) _⟩
        · have := ST.out.1
          rw [padU_set us xs.length _ hlt] at this
          exact this
        · have kept : ∀ (u : Value) (l : List Int), Own w1 (w.heap.size + 1) u l → Own (w1.setCell ⟨w.heap.size, us.length, none⟩ (.slice xa xn xc)) (w.heap.size + 1) u l := fun u l hu => World.ownsRow.kept hu ST.out.2 (by
            cases hb : u.ownBlock with
            | none => exact .inl rfl
            | some z =>
              right
              have := (World.ownsRow.lt hu z hb).1
              intro e
              simp only [Option.some.injEq] at e
              omega)
          by_cases e : i < us.length
          · have : (us ++ [Value.slice xa xn xc]).getD i nilRow = us.getD i nilRow := by simp only [List.getD_eq_getElem?_getD]; rw [List.getElem?_append_left e]
            rw [this]
            exact kept _ _ (US1.out i e)
          · have e2 : i = us.length := by simp at hi; omega
            subst e2
            have : (us ++ [Value.slice xa xn xc]).getD us.length nilRow = .slice xa xn xc := by simp
            rw [this]
            exact kept _ _ (Own.mono X.out hd1)
      case measure => simp [intOf]; omega
    · have e : us.length = xs.length := by omega
      go_wp2
      go_ret
      refine ⟨_, rfl, ?_, B.out⟩
      have ho := O.out
      have ep : padU us xs.length = us := by unfold padU; rw [show xs.length - us.length = 0 by omega, List.replicate_zero, List.append_nil]
      rw [ep] at ho
      have hc : xs.length ≤ maxLen := by unfold maxLen; omega
      have hlt : w.heap.size < wr.heap.size := (World.ownsRow.lt ho w.heap.size rfl).2
      refine ⟨some ⟨w.heap.size, 0, none⟩, xs.length, by rw [ML.out]; rfl, by rw [ML.out]; exact Nat.le_refl _, ⟨hc, fun h => by cases h⟩, .inr ⟨w.heap.size, 0, rfl, hlt, fun i hi => ?_⟩⟩
      rw [ML.out] at hi
      refine ⟨us.getD i nilRow, ?_, (US.out i (by omega)).rd⟩
      rw [Nat.zero_add, World.ownsRow.cellAt ho i (by omega), List.getD_eq_getElem?_getD, List.getElem?_eq_getElem (by omega)]
      rfl

set_option maxRecDepth 100000 in
set_option maxHeartbeats 800000 in
theorem eachBody_calls (v : Value) (m : List (List Nat)) (w : World) (h : RdM w v (m.map ci)) (hl : ∀ i, i < m.length → (∀ b ∈ m.getD i [], b < 256) ∧ (m.getD i []).length ≤ 4096) (hn : m.length ≤ 24) :
    Calls Tryz.prog 90 #[v, .func (.func 91) #[] #[]] w fun e w' => ∃ v', e = .returned v' ∧ OwnT w' w.heap.size v' (m.map ofN) ∧ Below w.heap.size w w' := by
  have R := hide h
  have HL := hide hl
  obtain ⟨xs, hxs⟩ : ∃ xs, xs = m.map ofN := ⟨_, rfl⟩
  have xl : xs.length = m.length := by rw [hxs, List.length_map]
  have xg : ∀ k, k < m.length → xs.getD k ⟨#[]⟩ = ofN (m.getD k []) := fun k hk => by
    rw [hxs]
    simp only [List.getD_eq_getElem?_getD]
    rw [List.getElem?_map, List.getElem?_eq_getElem hk]
    rfl
  rw [← hxs]
  have XL := hide xl
  have XG := hide xg
  obtain ⟨a, cap, hv, m1, m2, m3⟩ := h
  rw [List.length_map] at hv
  subst hv
  clear hl hxs xl xg m1 m2 m3
  go_enter Tryz.func90, Tryz.ntmps90
  go_wp2_with (at_make; refine wpList_make_texts rfl _ _ rfl w.heap.size _ _ m.length rfl rfl (by omega) (by omega) (by omega) (Nat.le_refl _) ?_)
  intro w0 hown0 hgrow0
  have E0 := hide hown0
  have G0 := hide hgrow0
  clear hown0 hgrow0
  go_wp2
  go_loopw [6, 7, 13] (fun _ _ vi wr => ∃ k : Nat, k ≤ m.length ∧ vi = .int .i64 k ∧ wr.ownsRow w.heap.size 9 1 (.slice (some ⟨w.heap.size, 0, none⟩) m.length m.length) m.length ((cpT xs k).map Value.string) ∧ Below w.heap.size w wr) (fun _ _ vi _ => m.length - (intOf vi).toNat)
  case atStart =>
    refine ⟨0, Nat.zero_le _, rfl, ?_, (Below.refl _ _).grown G0.out (Nat.le_refl _) (fun k h => by cases h)⟩
    rw [cpT_zero, XL.out]
    have := E0.out
    unfold OwnT at this
    rwa [List.length_replicate] at this
  case round =>
    obtain ⟨k, hk, rfl, hown, hb⟩ := hrel
    have O := hide hown
    have HB := hide hb
    by_cases hlt : k < m.length
    · obtain ⟨gb, off, u, rfl, _, hc, hu⟩ := (R.out.below hb).rowAt k (by rw [List.length_map]; exact hlt)
      have hmg : (m.map ci).getD k [] = ci (m.getD k []) := by
        simp only [List.getD_eq_getElem?_getD]
        rw [List.getElem?_map, List.getElem?_eq_getElem hlt]
        rfl
      rw [hmg] at hu
      obtain ⟨q1, q2⟩ := HL.out k hlt
      have U := hide hu
      have Q1 := hide q1
      have STP := hide (cpT_step xs k (by rw [XL.out]; exact hlt))
      have XGk := hide (XG.out k hlt)
      rw [XG.out k hlt] at STP
      generalize m.getD k [] = z at U Q1 q2 STP XGk
      have hlt' : (k : Int) < (m.length : Int) := by omega
      clear hown hb hmg hu q1
      obtain ⟨ua, uc, hu2, _⟩ := U.out
      rw [Gf.ci_length] at hu2
      subst hu2
      go_wp2_with fail
      refine (bodyOf_calls _ z _ U.out Q1.out q2).mono ?_
      rintro e w1 ⟨rfl, b1⟩
      have o1 := ownsRow_below O.out b1
      have hc2 : w1.frozen? ⟨w.heap.size, k, none⟩ = false := o1.frozenAt k
      obtain ⟨old, hc3⟩ : ∃ old, w1.cell? ⟨w.heap.size, k, none⟩ = some old := by
        rw [o1.cellAt k (by omega)]
        have := cpT_length xs k (by rw [XL.out]; exact hk)
        rw [XL.out] at this
        exact ⟨_, List.getElem?_eq_getElem (by simp; omega)⟩
      have KK := hide (o1.stored k (.string (ofN z))).1
      have B1 := hide ((HB.out.trans (b1.mono HB.out.size)).setCell (p := ⟨w.heap.size, k, none⟩) (Nat.le_refl _) (.string (ofN z)))
      clear o1 b1 hc
      generalize ofN z = zz at KK B1 STP ⊢
      go_wp2
      go_roundw
      case rel =>
        refine ⟨k + 1, by omega, by go_num, ?_, B1.out⟩
        have := KK.out
        rw [← List.map_set, STP.out] at this
        exact this
      case measure => simp [intOf]; omega
    · obtain rfl : k = m.length := by omega
      clear hown hb
      have o1 := O.out
      have e := cpT_end xs
      rw [XL.out] at e
      rw [e] at o1
      have O1 := hide o1
      clear o1
      go_wp2
      go_ret
      refine ⟨_, rfl, ?_, HB.out⟩
      show World.ownsRow _ _ _ _ _ xs.length _
      rw [XL.out]
      exact O1.out
end Go.Proofs.YtdoldboefceliaaGreatDoor

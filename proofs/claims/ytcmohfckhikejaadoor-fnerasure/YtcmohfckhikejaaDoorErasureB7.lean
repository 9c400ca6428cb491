/-
  What the law of erasure asks: a code stands as it was made, comes back whatever lost pieces hold, and is no code where one was spoilt: plain mathematics. No call is walked here. Two rows swapped, and a row swapped up: the program's function and its model's, call by call. Each contract says what it asks. A column cleared: the program's function and its model's, call by call. Each contract says what it asks. The model's clearing of a column in a matrix and in another beside it, in one call. The contract says what it asks. How many rows are not told by others: the program's RankOf and its model's, at all rows. The program's table of rests must hold its seven numbers where the program's own function is called. A copy into part of a list of the call's own, the world told whole. Each law says what it asks.
-/
import Derived.Test.YtcmohfckhikejaaDoorErasureB6
import Derived.Test.YtcmohfckhikejaaDoorErasureB2
import Derived.Test.YtcmohfckhikejaaDoorErasureB0
import Derived.Deep.RegionLaw
namespace Go.Proofs.YtcmohfckhikejaaDoor
open Go.RowKit
open Gf (ci nat ciM Sh AllLt invTo solN selM codeN those rowL identN elOk)

/-- A good code's data. -/
structure EncF (D Q l : Nat) (m : List (List Int)) : Prop where
  d1 : 1 ≤ D
  d6 : D ≤ 6
  q1 : 1 ≤ Q
  q4 : Q ≤ 4
  ml : m.length = D
  l0 : (m.getD 0 []).length = l
  l32 : l ≤ 32
  ok : piecesOk m = true
theorem enc_open {m : List (List Int)} {q : Nat} (h : (encR m q).2 = true) : EncF m.length q (m.getD 0 []).length m ∧ encR m q = (mulM (codeM m.length q) m, true) := by
  have hok : encOk m (q : Int) = true := by
    cases e : encOk m (q : Int) with
    | true => rfl
    | false => simp [encR, e] at h
  have hok2 := hok
  simp only [encOk, Bool.and_eq_true] at hok
  obtain ⟨h1, h2, h3, h4⟩ := codeOk_facts hok.1
  exact ⟨⟨by omega, by omega, by omega, by omega, rfl, rfl, (piecesOk_at hok.2 0 (by omega)).2.1, hok.2⟩, by unfold encR; rw [if_pos hok2, Int.toNat_natCast]⟩
theorem EncF.shM {D Q l : Nat} {m : List (List Int)} (h : EncF D Q l m) : Sh (m.map nat) D l := by
  have := sh_pieces h.ok
  rw [h.ml, h.l0] at this
  exact this
theorem EncF.eq {D Q l : Nat} {m : List (List Int)} (h : EncF D Q l m) : mulM (codeM D Q) m = ciM ((codeN D Q).map (rowL (m.map nat) l D)) := by
  rw [← mul_row (Gf.sh_code D Q) h.shM (by have := h.d1; omega), code_ciM, ciM_natM fun i hi => (piecesOk_at h.ok i hi).2.2]
theorem EncF.shE {D Q l : Nat} {m : List (List Int)} (h : EncF D Q l m) : Sh ((codeN D Q).map (rowL (m.map nat) l D)) (D + Q) l := sh_mul (Gf.sh_code D Q) h.shM
theorem EncF.len {D Q l : Nat} {m : List (List Int)} (h : EncF D Q l m) : (mulM (codeM D Q) m).length = D + Q := by rw [h.eq, Gf.ciM_length, h.shE.len]
theorem EncF.pieces {D Q l : Nat} {m : List (List Int)} (h : EncF D Q l m) : piecesOk (mulM (codeM D Q) m) = true := by rw [h.eq]; exact pieces_sh h.shE h.l32
theorem EncF.row {D Q l : Nat} {m : List (List Int)} (h : EncF D Q l m) (k : Nat) (hk : k < D + Q) : ((mulM (codeM D Q) m).getD k []).length = l ∧ ((mulM (codeM D Q) m).getD k []).all elOk = true := by
  rw [h.eq, Gf.ciM_get, Gf.ci_length, h.shE.row k hk]
  exact ⟨rfl, elOk_lt (h.shE.lt k hk)⟩
theorem EncF.front {D Q l : Nat} {m : List (List Int)} (h : EncF D Q l m) : (mulM (codeM D Q) m).take D = m := by
  apply Gf.ext_getD []
  · rw [List.length_take, h.len, h.ml]; omega
  · intro k hk
    rw [List.length_take, h.len] at hk
    have hkD : k < D := by omega
    rw [take_get _ _ _ hkD, h.eq, Gf.ciM_get, Gf.map_get _ _ _ _ (by rw [(Gf.sh_code D Q).len]; omega), Gf.code_low hkD]
    have e := Gf.ident_row h.shM
    have e2 : ((identN D).map (rowL (m.map nat) l D)).getD k [] = (m.map nat).getD k [] := by rw [e]
    rw [Gf.map_get _ _ _ _ (by rw [(Gf.sh_ident D).len]; exact hkD), Gf.identN_get D k hkD, natM_get] at e2
    rw [e2, ci_nat (piecesOk_at h.ok k (by rw [h.ml]; exact hkD)).2.2]
theorem EncF.code {D Q l : Nat} {m : List (List Int)} (h : EncF D Q l m) : codeOk (D : Int) (Q : Int) = true := by
  have := h.d1; have := h.d6; have := h.q1; have := h.q4
  exact codeOk_yes (by omega)
theorem EncF.chk {D Q l : Nat} {m : List (List Int)} (h : EncF D Q l m) : chkR D Q (mulM (codeM D Q) m) = (true, true) := by
  have c1 : chkOk (D : Int) (Q : Int) (mulM (codeM D Q) m) = true := by
    simp only [chkOk, Bool.and_eq_true, decide_eq_true_eq]
    exact ⟨h.code, by rw [h.len]; omega, h.pieces⟩
  have e : encT D Q (mulM (codeM D Q) m) = mulM (codeM D Q) m := by unfold encT; rw [h.front]
  rw [chkR, if_pos c1, Int.toNat_natCast, Int.toNat_natCast, e, (unl_zero _ _ _).2 fun i _ => rfl]
  rfl

/-- A piece that is lost holds something else. -/
def spoil (ys : List Int) (k : Nat) (r : List Int) : List Int := if ys.contains (k : Int) then r.map (fun x => (x + 1 + (k : Int)) % 256) else r
def spM (E : List (List Int)) (ys : List Int) : List (List Int) := (List.range E.length).map fun k => spoil ys k (E.getD k [])
theorem spM_length (E : List (List Int)) (ys : List Int) : (spM E ys).length = E.length := by simp [spM]
theorem spM_get (E : List (List Int)) (ys : List Int) (k : Nat) (h : k < E.length) : (spM E ys).getD k [] = spoil ys k (E.getD k []) := by simp [spM, h]
theorem spoil_length (ys : List Int) (k : Nat) (r : List Int) : (spoil ys k r).length = r.length := by
  unfold spoil
  split
  · rw [List.length_map]
  · rfl
theorem spoil_el {ys : List Int} {k : Nat} {r : List Int} (h : r.all elOk = true) : (spoil ys k r).all elOk = true := by
  unfold spoil
  split
  · rw [List.all_eq_true]
    intro x hx
    obtain ⟨y, _, rfl⟩ := List.mem_map.1 hx
    exact Gf.elOk_iff.2 (by omega)
  · exact h
/-- What the second half of the law rests on: a code, and what was lost of it. -/
structure SpF (D Q l : Nat) (m : List (List Int)) (ys : List Int) : Prop where
  enc : EncF D Q l m
  ris : rises ys ((D + Q : Nat) : Int) = true
  yl : ys.length ≤ Q
theorem SpF.row {D Q l : Nat} {m : List (List Int)} {ys : List Int} (h : SpF D Q l m ys) (k : Nat) (hk : k < D + Q) : ((spM (mulM (codeM D Q) m) ys).getD k []).length = l ∧ ((spM (mulM (codeM D Q) m) ys).getD k []).all elOk = true := by
  rw [spM_get _ _ _ (by rw [h.enc.len]; exact hk), spoil_length]
  exact ⟨(h.enc.row k hk).1, spoil_el (h.enc.row k hk).2⟩
theorem SpF.pieces {D Q l : Nat} {m : List (List Int)} {ys : List Int} (h : SpF D Q l m ys) : piecesOk (spM (mulM (codeM D Q) m) ys) = true := by
  refine piecesOk_yes fun i hi => ?_
  rw [spM_length, h.enc.len] at hi
  obtain ⟨r1, r2⟩ := h.row i hi
  obtain ⟨r3, _⟩ := h.row 0 (by omega)
  unfold pieceAt
  rw [r1, r2, r3, decide_eq_true ⟨rfl, h.enc.l32⟩]
  rfl
theorem SpF.all {D Q l : Nat} {m : List (List Int)} {ys : List Int} (h : SpF D Q l m ys) : (spM (mulM (codeM D Q) m) ys).all (fun r : List Int => r.all elOk) = true := by
  have := h.pieces
  unfold piecesOk at this
  rw [Bool.and_eq_true] at this
  exact this.2
theorem SpF.dec {D Q l : Nat} {m : List (List Int)} {ys : List Int} (h : SpF D Q l m ys) : DecF D Q l (spM (mulM (codeM D Q) m) ys) ys :=
  ⟨h.enc.d1, h.enc.d6, h.enc.q1, h.enc.q4, h.ris, h.yl, by rw [spM_length, h.enc.len], (h.row 0 (by have := h.enc.d1; omega)).1, h.enc.l32, h.pieces⟩
theorem SpF.kept {D Q l : Nat} {m : List (List Int)} {ys : List Int} (h : SpF D Q l m ys) (k : Nat) (hk : k < D + Q) (hy : (k : Int) ∉ ys) : (spM (mulM (codeM D Q) m) ys).getD k [] = (mulM (codeM D Q) m).getD k [] := by
  rw [spM_get _ _ _ (by rw [h.enc.len]; exact hk)]
  unfold spoil
  rw [List.contains_eq_mem, decide_eq_false hy]
  rfl
theorem SpF.back {D Q l : Nat} {m : List (List Int)} {ys : List Int} (h : SpF D Q l m ys) : decR D Q (spM (mulM (codeM D Q) m) ys) ys = (mulM (codeM D Q) m, true) := by
  have hc : canOk (D : Int) (Q : Int) ys = true := by
    unfold canOk
    rw [h.enc.code, Bool.true_and]
    have := h.ris
    rw [Int.natCast_add] at this
    exact this
  have hok : decOk (D : Int) (Q : Int) (spM (mulM (codeM D Q) m) ys) ys = true := by
    unfold decOk canR
    rw [if_pos hc, h.pieces, decide_eq_true (by have := h.yl; omega), decide_eq_true (by rw [spM_length, h.enc.len]; omega)]
    rfl
  unfold decR
  rw [if_pos hok, Int.toNat_natCast, Int.toNat_natCast, dec_code h.dec h.enc.ok h.enc.ml h.enc.l0 h.kept]
theorem SpF.chk {D Q l : Nat} {m : List (List Int)} {ys : List Int} (h : SpF D Q l m ys) (hl : 0 < l) (hy : 0 < ys.length) : chkR D Q (spM (mulM (codeM D Q) m) ys) = (false, true) := by
  have c1 : chkOk (D : Int) (Q : Int) (spM (mulM (codeM D Q) m) ys) = true := by
    simp only [chkOk, Bool.and_eq_true, decide_eq_true_eq]
    exact ⟨h.enc.code, by rw [spM_length, h.enc.len]; omega, h.pieces⟩
  rw [chkR, if_pos c1, Int.toNat_natCast, Int.toNat_natCast, spM_length, h.enc.len]
  congr 1
  refine decide_eq_false fun e => ?_
  have hz := (unl_zero _ _ _).1 (show unlTo (spM (mulM (codeM D Q) m) ys) (encT D Q (spM (mulM (codeM D Q) m) ys)) (D + Q) = 0 by omega)
  have d1 := h.enc.d1
  have hD : D ≤ (spM (mulM (codeM D Q) m) ys).length := by rw [spM_length, h.enc.len]; omega
  have t1 : piecesOk ((spM (mulM (codeM D Q) m) ys).take D) = true := pieces_take h.pieces D (by omega) hD
  have t2 : ((spM (mulM (codeM D Q) m) ys).take D).length = D := by rw [List.length_take]; omega
  have t3 : (((spM (mulM (codeM D Q) m) ys).take D).getD 0 []).length = l := by rw [take_get _ _ _ (by omega)]; exact (h.row 0 (by omega)).1
  have b1 := dec_back h.dec t1 t2 t3 (fun k hk _ => hz k hk)
  have b2 := dec_back h.dec h.enc.ok h.enc.ml h.enc.l0 h.kept
  have e1 : (spM (mulM (codeM D Q) m) ys).take D = m := by
    have := congrArg ciM (b1.symm.trans b2)
    rw [ciM_natM fun i hi => (piecesOk_at t1 i hi).2.2, ciM_natM fun i hi => (piecesOk_at h.enc.ok i hi).2.2] at this
    exact this
  obtain ⟨x, hx⟩ : ∃ x, x = ys.getD 0 0 := ⟨_, rfl⟩
  have hr := rises_at h.ris 0 hy
  simp only [risAt, decide_eq_true_eq] at hr
  rw [← hx] at hr
  obtain ⟨k, rfl⟩ := Int.eq_ofNat_of_zero_le hr.1
  have hk : k < D + Q := by omega
  have q4 := h.enc.q4
  have d6 := h.enc.d6
  have hs := hz k hk
  unfold encT at hs
  rw [e1, spM_get _ _ _ (by rw [h.enc.len]; exact hk)] at hs
  have hm : ys.contains ((k : Nat) : Int) = true := contains_at hy hx.symm
  unfold spoil at hs
  rw [if_pos hm] at hs
  have hrl := (h.enc.row k hk).1
  generalize (mulM (codeM D Q) m).getD k [] = r at hs hrl
  cases r with
  | nil => simp at hrl; omega
  | cons y r =>
    rw [List.map_cons, List.cons.injEq] at hs
    have := hs.1
    omega
theorem rises_snoc {ys : List Int} {k : Nat} (h : rises ys (k : Int) = true) : rises (ys ++ [(k : Int)]) ((k + 1 : Nat) : Int) = true := by
  refine rises_yes fun i hi => ?_
  rw [List.length_append, List.length_singleton] at hi
  simp only [risAt, decide_eq_true_eq]
  by_cases e : i < ys.length
  · have := rises_at h i e
    simp only [risAt, decide_eq_true_eq] at this
    rw [getD_app, if_pos e]
    refine ⟨this.1, by omega, ?_⟩
    rcases this.2.2 with h0 | h0
    · exact .inl h0
    · right
      rw [getD_app, if_pos (by omega)]
      exact h0
  · have e2 : i = ys.length := by omega
    subst e2
    rw [getD_app, if_neg (by omega), Nat.sub_self]
    refine ⟨by simp, by simp; omega, ?_⟩
    by_cases h0 : ys.length = 0
    · exact .inl h0
    · right
      have := rises_at h (ys.length - 1) (by omega)
      simp only [risAt, decide_eq_true_eq] at this
      rw [getD_app, if_pos (by omega)]
      show _ < ((k : Nat) : Int)
      omega
theorem rises_next {ys : List Int} {k : Nat} (h : rises ys (k : Int) = true) : rises ys ((k + 1 : Nat) : Int) = true := by
  refine rises_yes fun i hi => ?_
  have := rises_at h i hi
  simp only [risAt, decide_eq_true_eq] at this ⊢
  exact ⟨this.1, by omega, this.2.2⟩
end Go.Proofs.YtcmohfckhikejaaDoor

namespace Go.Proofs.YtcmohfckhikejaaDoor
open Go.RowKit
open Gf (ci ciM swapM pf piv Sh AllLt)

/-- The rows, with row p (where there is one) swapped up. -/
def upM (M : List (List Nat)) (at_ : Nat) : Option Nat → List (List Nat)
  | some p => swapM M at_ p
  | none => M
theorem MatV.swap {w : World} {lo hi g n cap : Nat} {vs : List Value} {m : List (List Int)} (h : MatV w lo hi (.slice (some ⟨g, 0, none⟩) n cap) vs m) (a b : Nat) (ha : a < m.length) (hb : b < m.length) :
    MatV ((w.setCell ⟨g, a, none⟩ (vs.getD b nilRow)).setCell ⟨g, b, none⟩ (vs.getD a nilRow)) lo hi (.slice (some ⟨g, 0, none⟩) n cap) ((vs.set a (vs.getD b nilRow)).set b (vs.getD a nilRow)) ((m.set a (m.getD b [])).set b (m.getD a [])) ∧
      w.grownBy ((w.setCell ⟨g, a, none⟩ (vs.getD b nilRow)).setCell ⟨g, b, none⟩ (vs.getD a nilRow)) (some g) := by
  obtain rfl := h.lenEq
  have st1 := World.ownsRow.stored h.head a (vs.getD b nilRow)
  have st2 := World.ownsRow.stored st1.1 b (vs.getD a nilRow)
  have hg : w.grownBy ((w.setCell ⟨g, a, none⟩ (vs.getD b nilRow)).setCell ⟨g, b, none⟩ (vs.getD a nilRow)) (some g) := Gf.grownBy_trans st1.2 st2.2
  have hla : a < vs.length := by rw [h.len]; exact ha
  have hlb : b < vs.length := by rw [h.len]; exact hb
  have gv : ∀ i, ((vs.set a (vs.getD b nilRow)).set b (vs.getD a nilRow)).getD i nilRow = vs.getD (if i = b then a else if i = a then b else i) nilRow := by
    intro i
    rw [getD_set _ _ _ _ _ (by rw [List.length_set]; exact hlb), getD_set _ _ _ _ _ hla]
    split
    · rfl
    · split <;> rfl
  have gm : ∀ i, ((m.set a (m.getD b [])).set b (m.getD a [])).getD i [] = m.getD (if i = b then a else if i = a then b else i) [] := by
    intro i
    rw [getD_set _ _ _ _ _ (by rw [List.length_set]; exact hb), getD_set _ _ _ _ _ ha]
    split
    · rfl
    · split <;> rfl
  have sl : ∀ i, i < m.length → (if i = b then a else if i = a then b else i) < m.length := by
    intro i hi
    split
    · exact ha
    · split
      · exact hb
      · exact hi
  have ml : ((m.set a (m.getD b [])).set b (m.getD a [])).length = m.length := by simp
  refine ⟨⟨by simp [h.len], by rw [ml]; exact st2.1, ?_, h.top, ?_, ?_⟩, hg⟩
  · intro i hi
    rw [ml] at hi
    rw [gv, gm]
    exact World.ownsRow.kept (h.row _ (sl i hi)) hg (heads_apart' h.head (h.row _ (sl i hi)))
  · intro i k hi hk
    rw [ml] at hi
    rw [gv] at hk
    exact h.tops _ k (sl i hi) hk
  · intro i j hi hj hij
    rw [ml] at hi hj
    rw [gv, gv]
    refine h.apart _ _ (sl i hi) (sl j hj) ?_
    split <;> split <;> (try split) <;> (try split) <;> omega
theorem MatV.swapN {w : World} {lo hi g n cap : Nat} {vs : List Value} {M : List (List Nat)} (h : MatV w lo hi (.slice (some ⟨g, 0, none⟩) n cap) vs (ciM M)) (a b : Nat) (ha : a < M.length) (hb : b < M.length) :
    MatV ((w.setCell ⟨g, a, none⟩ (vs.getD b nilRow)).setCell ⟨g, b, none⟩ (vs.getD a nilRow)) lo hi (.slice (some ⟨g, 0, none⟩) n cap) ((vs.set a (vs.getD b nilRow)).set b (vs.getD a nilRow)) (ciM (swapM M a b)) ∧
      w.grownBy ((w.setCell ⟨g, a, none⟩ (vs.getD b nilRow)).setCell ⟨g, b, none⟩ (vs.getD a nilRow)) (some g) := by
  have := h.swap a b (by rw [Gf.ciM_length]; exact ha) (by rw [Gf.ciM_length]; exact hb)
  rw [Gf.ciM_get, Gf.ciM_get, Gf.ciM_set, Gf.ciM_set] at this
  exact this
theorem MatV.headChg {w w' : World} {lo hi g n cap : Nat} {vs : List Value} {m : List (List Int)} (h : MatV w lo hi (.slice (some ⟨g, 0, none⟩) n cap) vs m) (hg : w.grownBy w' (some g)) : Chg lo hi w w' :=
  Chg.ofGrown hg (fun k hk => by cases hk; exact ⟨(World.ownsRow.lt h.head g rfl).1, h.top g rfl⟩)
theorem MatV.shape {w : World} {lo hi : Nat} {v : Value} {vs : List Value} {m : List (List Int)} (h : MatV w lo hi v vs m) (i : Nat) (hi' : i < m.length) : ∃ a n c, vs.getD i nilRow = .slice a n c := (h.row i hi').shape

set_option maxRecDepth 100000 in
set_option maxHeartbeats 800000 in
theorem l2Swap_calls (v : Value) (M : List (List Nat)) (a b lo hi : Nat) (w : World) (h : Mat w lo hi v (ciM M)) (ha : a < M.length) (hb : b < M.length) (hn : M.length ≤ 1048576) :
    Calls Tryd.prog 87 #[v, .int .i64 a, .int .i64 b] w fun e w' => e = .returned (.tuple #[]) ∧ Mat w' lo hi v (ciM (swapM M a b)) ∧ Chg lo hi w w' := by
  obtain ⟨vs, h⟩ := h
  obtain ⟨g, cap, rfl, _, _, _, _⟩ := h.open (by rw [Gf.ciM_length]; omega)
  have hl : (ciM M).length = M.length := Gf.ciM_length M
  have ha' : (a : Int) < ((ciM M).length : Int) := by omega
  have hb' : (b : Int) < ((ciM M).length : Int) := by omega
  have hca := h.cell a (by omega)
  have hcb := h.cell b (by omega)
  have hfa : w.frozen? ⟨g, a, none⟩ = false := World.ownsRow.frozenAt h.head a
  have hfb : w.frozen? ⟨g, b, none⟩ = false := World.ownsRow.frozenAt h.head b
  obtain ⟨aa, an, ac, hsa⟩ := h.shape a (by omega)
  obtain ⟨ba, bn, bc, hsb⟩ := h.shape b (by omega)
  have SW := h.swapN a b ha hb
  rw [hsa] at hca
  rw [hsb] at hcb
  rw [hsa, hsb] at SW
  have CH := hide (h.headChg SW.2)
  have SW1 := hide SW.1
  have st1 := World.ownsRow.stored h.head a (.slice ba bn bc)
  have hfb2 : (w.setCell ⟨g, a, none⟩ (.slice ba bn bc)).frozen? ⟨g, b, none⟩ = false := World.ownsRow.frozenAt st1.1 b
  have hcb2 : ∃ o, (w.setCell ⟨g, a, none⟩ (.slice ba bn bc)).cell? ⟨g, b, none⟩ = some o := by
    rw [World.ownsRow.cellAt st1.1 b (by omega)]
    exact ⟨_, List.getElem?_eq_getElem (by rw [List.length_set, h.len]; omega)⟩
  obtain ⟨o2, hcb2⟩ := hcb2
  clear h SW st1 hsa hsb
  go_enter Tryd.func87, Tryd.ntmps87
  go_wp2
  go_end0
  exact ⟨rfl, ⟨_, SW1.out⟩, CH.out⟩

set_option maxRecDepth 100000 in
set_option maxHeartbeats 1600000 in
theorem swapUp_calls (v : Value) (M : List (List Nat)) (n c at_ col lo hi : Nat) (w : World) (h : Mat w lo hi v (ciM M)) (hs : Sh M n c) (ha : at_ < n) (hc : col < c) (hn : n ≤ 1048576) (hcn : c ≤ 1048576) :
    Calls Tryd.prog 72 #[v, .int .i64 at_, .int .i64 col] w fun e w' => e = .returned (.bool (piv M at_ col).isSome) ∧ Mat w' lo hi v (ciM (upM M at_ (piv M at_ col))) ∧ Chg lo hi w w' := by
  obtain ⟨vs, h⟩ := h
  have hlen := hs.len
  obtain ⟨g, cap, hv, _, _, _, _⟩ := h.open (by rw [Gf.ciM_length, hlen]; omega)
  rw [Gf.ciM_length, hlen] at hv
  subst hv
  obtain ⟨pv, hpv⟩ : ∃ pv, pv = piv M at_ col := ⟨_, rfl⟩
  rw [← hpv]
  have PV := hide hpv
  have H := hide h
  have S := hide hs
  have HL := hide hlen
  have hc' : (col : Int) < (c : Int) := by omega
  clear hpv h hs hlen
  go_enter Tryd.func72, Tryd.ntmps72
  go_wp2
  go_loop [7] (fun vi => ∃ j : Nat, at_ ≤ j ∧ j ≤ n ∧ vi = .int .i64 j ∧ pv = pf M col (M.length - j) j) (fun vi => n - (intOf vi).toNat)
  case atStart => exact ⟨at_, Nat.le_refl _, by omega, rfl, PV.out⟩
  case round =>
    obtain ⟨j, hj1, hj2, rfl, hj3⟩ := hrel
    have J := hide hj3
    clear hj3
    by_cases hlt : j < n
    · have hlt' : (j : Int) < (n : Int) := by omega
      have hjl : j < (ciM M).length := by rw [Gf.ciM_length, HL.out]; exact hlt
      have hal : at_ < (ciM M).length := by rw [Gf.ciM_length, HL.out]; exact ha
      have hc1 := H.out.cell j hjl
      have hro := H.out.row j hjl
      rw [Gf.ciM_get] at hro
      obtain ⟨g2, cap2, hu, _, _, _, _⟩ := hro.open1 (by rw [Gf.ci_length, S.out.row j hlt]; omega)
      rw [Gf.ci_length, S.out.row j hlt] at hu
      have hel := hro
      rw [hu] at hel hc1
      obtain ⟨_, hce⟩ := hel.at col (by rw [Gf.ci_length, S.out.row j hlt]; exact hc)
      rw [Gf.ci_getD] at hce
      obtain ⟨x, hx⟩ : ∃ x, x = (M.getD j []).getD col 0 := ⟨_, rfl⟩
      rw [← hx] at hce
      have X := hide hx
      have HU := hide hu
      clear hel hro hx hu
      by_cases h0 : x = 0
      · subst h0
        go_wp2
        go_round
        case rel =>
          refine ⟨j + 1, by omega, by omega, by go_num, ?_⟩
          have := J.out
          rw [Gf.pf_step (by rw [HL.out]; exact hlt), ← X.out, if_neg (by simp)] at this
          exact this
        case measure => simp [intOf]; omega
      · have h0' : ((x : Int) == 0) = false := by simp; exact h0
        have hpv : pv = some j := by
          have := J.out
          rw [Gf.pf_step (by rw [HL.out]; exact hlt), ← X.out, if_pos h0] at this
          exact this
        have PJ := hide hpv
        clear hpv
        have hca := H.out.cell at_ hal
        have hfa : w.frozen? ⟨g, at_, none⟩ = false := World.ownsRow.frozenAt (by have := H.out.head; rwa [Gf.ciM_length, HL.out] at this) at_
        have hfj : w.frozen? ⟨g, j, none⟩ = false := World.ownsRow.frozenAt (by have := H.out.head; rwa [Gf.ciM_length, HL.out] at this) j
        obtain ⟨aa, an, ac, hsa⟩ := H.out.shape at_ hal
        have SW := H.out.swapN at_ j (by rw [HL.out]; exact ha) (by rw [HL.out]; exact hlt)
        rw [hsa] at hca
        rw [hsa, HU.out] at SW
        have CH := hide (H.out.headChg SW.2)
        have SW1 := hide SW.1
        have hd := H.out.head
        rw [Gf.ciM_length, HL.out] at hd
        have st1 := World.ownsRow.stored hd at_ (.slice (some ⟨g2, 0, none⟩) c cap2)
        have hfb2 : (w.setCell ⟨g, at_, none⟩ (.slice (some ⟨g2, 0, none⟩) c cap2)).frozen? ⟨g, j, none⟩ = false := World.ownsRow.frozenAt st1.1 j
        have hcb2 : ∃ o, (w.setCell ⟨g, at_, none⟩ (.slice (some ⟨g2, 0, none⟩) c cap2)).cell? ⟨g, j, none⟩ = some o := by
          rw [World.ownsRow.cellAt st1.1 j (by omega)]
          exact ⟨_, List.getElem?_eq_getElem (by rw [List.length_set, H.out.len]; exact hjl)⟩
        obtain ⟨o2, hcb2⟩ := hcb2
        have ha' : (at_ : Int) < (n : Int) := by omega
        have i0 : (0 : Int) ≤ (at_ : Int) := by omega
        have i1 : (0 : Int) ≤ (j : Int) := by omega
        clear SW st1 hsa hd
        go_wp2
        go_region
        all_goals (try go_wp2)
        all_goals
          go_ret
          have e := PJ.out
          subst e
          exact ⟨rfl, ⟨_, SW1.out.below (below_drew' (Below.refl _ _))⟩, CH.out.trans (Chg.ofBelow (below_drew' (Below.refl _ _)))⟩
    · obtain rfl : j = n := by omega
      have hpv : pv = none := by
        have := J.out
        rw [Gf.pf_end (by rw [HL.out]; exact Nat.le_refl _)] at this
        exact this
      subst hpv
      go_wp2
      go_ret
      exact ⟨rfl, ⟨_, H.out⟩, Chg.refl _ _ _⟩
end Go.Proofs.YtcmohfckhikejaaDoor

namespace Go.Proofs.YtcmohfckhikejaaDoor
open Go.RowKit
open Gf (ci ciM swapM pf piv Sh AllLt clearM addRow headM opM hOf fOf clr sc inv mul amTo)

set_option maxRecDepth 100000 in
set_option maxHeartbeats 1600000 in
theorem clearColumn_calls (v : Value) (M : List (List Nat)) (n c by_ col lo hi : Nat) (w : World) (hT : Gf.Tab w) (h : Mat w lo hi v (ciM M)) (hs : Sh M n c) (ha : by_ < n) (hc : col < c) (hn : n ≤ 1048576) (hcn : c ≤ 1048576) (hlo : 0 < lo) :
    Calls Tryd.prog 74 #[v, .int .i64 by_, .int .i64 col] w fun e w' => e = .returned (.tuple #[]) ∧ Mat w' lo hi v (ciM (clearM M by_ (fun i => (M.getD i []).getD col 0) n)) ∧ Chg lo hi w w' := by
  obtain ⟨vs, h⟩ := h
  have hlen := hs.len
  obtain ⟨g, cap, hv, _, _, _, _⟩ := h.open (by rw [Gf.ciM_length, hlen]; omega)
  rw [Gf.ciM_length, hlen] at hv
  subst hv
  obtain ⟨fs, hfs⟩ : ∃ fs : Nat → Nat, fs = fun i => (M.getD i []).getD col 0 := ⟨_, rfl⟩
  rw [← hfs]
  have hf256 : ∀ i, fs i < 256 := fun i => by rw [hfs]; exact hs.elt i col
  have F256 := hide hf256
  have FS := hide hfs
  have H := hide h
  have S := hide hs
  have HL := hide hlen
  have T := hide hT
  have hc' : (col : Int) < (c : Int) := by omega
  have ha' : (by_ : Int) < (n : Int) := by omega
  clear h hs hlen hT hfs hf256
  go_enter Tryd.func74, Tryd.ntmps74
  go_wp2
  go_loopw [10] (fun vi wr => ∃ k : Nat, k ≤ n ∧ vi = .int .i64 k ∧ MatV wr lo hi (.slice (some ⟨g, 0, none⟩) n cap) vs (ciM (clearM M by_ fs k)) ∧ Chg lo hi w wr) (fun vi _ => n - (intOf vi).toNat)
  case atStart => exact ⟨0, Nat.zero_le _, rfl, by rw [Gf.clearM_zero]; exact H.out, Chg.refl _ _ _⟩
  case round =>
    obtain ⟨k, hk, rfl, hM, hC⟩ := hrel
    have SC := hide (S.out.clear ha F256.out k)
    have MH := hide hM
    have C := hide hC
    clear hC
    by_cases hlt : k < n
    · have hlt' : (k : Int) < (n : Int) := by omega
      have hkl : k < (ciM (clearM M by_ fs k)).length := by rw [Gf.ciM_length, SC.out.len]; exact hlt
      have hbl : by_ < (ciM (clearM M by_ fs k)).length := by rw [Gf.ciM_length, SC.out.len]; exact ha
      have hck := hM.cell k hkl
      have hro := hM.row k hkl
      rw [Gf.ciM_get] at hro
      obtain ⟨g2, cap2, hu, _, _, _, _⟩ := hro.open1 (by rw [Gf.ci_length, SC.out.row k hlt]; omega)
      rw [Gf.ci_length, SC.out.row k hlt] at hu
      have HU := hide hu
      by_cases heq : k = by_
      · subst heq
        rw [hu] at hck
        have e1 : ((k : Int) == (k : Int)) = true := by simp
        clear hM hro hu
        go_wp2
        go_roundw
        case rel =>
          refine ⟨k + 1, by omega, by go_num, ?_, C.out⟩
          rw [← Gf.clearM_skip]
          exact MH.out
        case measure => simp [intOf]; omega
      · have e1 : ((k : Int) == (by_ : Int)) = false := by simp; omega
        have hcb := hM.cell by_ hbl
        have hgk : (clearM M by_ fs k).getD k [] = M.getD k [] := by rw [Gf.clearM_get _ _ _ _ _ (by rw [HL.out]; exact hlt), if_neg (fun h' => by omega)]
        have hgb : (clearM M by_ fs k).getD by_ [] = M.getD by_ [] := by rw [Gf.clearM_get _ _ _ _ _ (by rw [HL.out]; exact ha), if_neg (fun h' => h'.2 rfl)]
        obtain ⟨s, hss⟩ : ∃ s, s = M.getD k [] := ⟨_, rfl⟩
        obtain ⟨q, hqq⟩ : ∃ q, q = M.getD by_ [] := ⟨_, rfl⟩
        rw [hgk, ← hss] at hro
        have hsl : s.length = c := by rw [hss]; exact S.out.row k hlt
        have hql : q.length = c := by rw [hqq]; exact S.out.row by_ ha
        have hslt : AllLt s := by rw [hss]; exact S.out.lt k hlt
        have hqlt : AllLt q := by rw [hqq]; exact S.out.lt by_ ha
        obtain ⟨u, huu⟩ : ∃ u, u = vs.getD k nilRow := ⟨_, rfl⟩
        obtain ⟨bu, hbu⟩ : ∃ bu, bu = vs.getD by_ nilRow := ⟨_, rfl⟩
        rw [← hbu] at hcb
        have hO := hro
        rw [hu] at hck hro
        obtain ⟨_, hce⟩ := hro.at col (by rw [Gf.ci_length, hsl]; exact hc)
        rw [Gf.ci_getD] at hce
        obtain ⟨x, hx⟩ : ∃ x, x = s.getD col 0 := ⟨_, rfl⟩
        rw [← hx] at hce
        have hxf : fs k = x := by rw [FS.out, hx, hss]
        have hx256 : x < 256 := by rw [← hxf]; exact F256.out k
        have hnx : addRow (M.getD k []) (M.getD by_ []) (fs k) = amTo s q x 0 q.length := by rw [← hss, ← hqq, hxf, Gf.amTo_add s q x (by rw [hql, hsl])]
        have NX := hide hnx
        have O := hide hro
        have QL := hide hql
        have SL := hide hsl
        have QLT := hide hqlt
        have SLT := hide hslt
        have BU := hide hbu
        have KL := hide hkl
        have TT := hide (Gf.tab_chg T.out C.out hlo)
        have TG : Hid (∀ w', wr.grownBy w' (some g2) → Gf.Tab w') := fun w' hg => Gf.tab_grown TT.out hg (fun k hk => by have := (World.ownsRow.lt O.out k hk).1; omega)
        have QG : Hid (∀ w', wr.grownBy w' (some g2) → Rd w' bu (ci q)) := fun w' hg => by
          have := MH.out.other k by_ KL.out hbl (fun h => heq h.symm) (by rw [HU.out]; exact hg)
          rw [Gf.ciM_get, hgb, ← hqq, ← BU.out] at this
          exact this.rd
        have i0 : (0 : Int) ≤ (k : Int) := by omega
        have i1 : (0 : Int) ≤ (by_ : Int) := by omega
        have i2 : (0 : Int) ≤ (col : Int) := by omega
        clear hM hO hro hu hgk hgb hss hqq hsl hql hslt hqlt huu hbu hx hxf hnx hkl hbl
        go_wp2
        go_region_with (go_at_call 68; refine (Gf.addMultiple_calls (.slice (some ⟨g2, 0, none⟩) c cap2) bu s q x 0 lo wr.drew (fun w' hg => TG.out w' ⟨hg.os, hg.tape, hg.output, hg.size, hg.block⟩) (by exact O.out.drew) (fun w' hg => QG.out w' ⟨hg.os, hg.tape, hg.output, hg.size, hg.block⟩) (by omega) (by omega) (by omega) (by rw [QL.out, SL.out]; omega) (by rw [SL.out]; omega) SLT.out QLT.out (by rw [SL.out]; omega)).mono ?_; rintro e w' ⟨rfl, ho, hg⟩)
        all_goals
          have ho2 : Own w' lo (vs.getD k nilRow) (ci (addRow (M.getD k []) (M.getD by_ []) (fs k))) := by
            rw [NX.out, HU.out]
            simpa using ho
          have hg2' : wr.grownBy w' (vs.getD k nilRow).ownBlock := by
            rw [HU.out]
            exact ⟨hg.os, hg.tape, hg.output, hg.size, hg.block⟩
          have W2 := hide (MH.out.write k KL.out _ ho2 hg2')
          have C3 := hide (C.out.trans (MH.out.writeChg k KL.out hg2'))
          clear ho hg ho2 hg2'
          go_wp2
          go_roundw
          case rel =>
            refine ⟨k + 1, by omega, by go_num, ?_, C3.out⟩
            have := W2.out
            rw [Gf.ciM_set, Gf.clearM_step _ _ _ _ heq] at this
            exact this
          case measure => simp [intOf]; omega
    · obtain rfl : k = n := by omega
      clear hM
      go_wp2
      go_end0
      exact ⟨rfl, ⟨_, MH.out⟩, C.out⟩

/-- What the program's reduction does at a column that has something: rows swapped, made to begin with 1, the others cleared. -/
theorem clr_parts (M : List (List Nat)) (n c at_ col p : Nat) (hs : Sh M n c) (ha : at_ < n) (hp : p < n) :
    clearM (headM (swapM M at_ p) at_ (((swapM M at_ p).getD at_ []).getD col 0)) at_ (fun i => ((headM (swapM M at_ p) at_ (((swapM M at_ p).getD at_ []).getD col 0)).getD i []).getD col 0) n = clr M at_ col p := by
  have e1 : ((swapM M at_ p).getD at_ []).getD col 0 = hOf M col p := by
    rw [Gf.swapM_get _ _ _ _ (by rw [hs.len]; exact ha) (by rw [hs.len]; exact hp)]
    unfold hOf
    by_cases e : at_ = p
    · rw [if_pos e, e]
    · rw [if_neg e, if_pos rfl]
  unfold clr opM
  rw [e1, hs.len]
  unfold clearM
  apply List.map_congr_left
  intro i hi
  by_cases e : i < n ∧ i ≠ at_
  · rw [if_pos e, if_pos e]
    congr 1
    unfold fOf headM
    dsimp only
    rw [getD_set _ _ _ _ _ (by rw [Gf.swapM_length, hs.len]; exact ha), if_neg e.2]
  · rw [if_neg e, if_neg e]

set_option maxRecDepth 100000 in
set_option maxHeartbeats 1600000 in
theorem reduceRows_calls (v : Value) (M : List (List Nat)) (n c cols lo hi : Nat) (w : World) (hT : Gf.Tab w) (h : Mat w lo hi v (ciM M)) (hs : Sh M n c) (h1 : 1 ≤ n) (hc : cols ≤ c) (hn : n ≤ 1048576) (hcn : c ≤ 1048576) (hlo : 0 < lo) :
    Calls Tryd.prog 54 #[v, .int .i64 cols] w fun e w' => e = .returned (.int .i64 (Gf.redM M cols).1) ∧ Mat w' lo hi v (ciM (Gf.redM M cols).2) ∧ Chg lo hi w w' := by
  have S := hide hs
  have hlen := hs.len
  obtain ⟨va, vc, hv⟩ : ∃ a c, v = .slice a n c := by
    obtain ⟨vs, h⟩ := h
    obtain ⟨g, cap, hv, _⟩ := h.open (by rw [Gf.ciM_length, hlen]; omega)
    rw [Gf.ciM_length, hlen] at hv
    exact ⟨_, _, hv⟩
  subst hv
  have H := hide h
  have HL := hide hlen
  have T := hide hT
  obtain ⟨res, hres⟩ : ∃ r, r = Gf.redM M cols := ⟨_, rfl⟩
  rw [← hres]
  have RS := hide hres
  clear h hs hlen hT hres
  go_enter Tryd.func54, Tryd.ntmps54
  go_wp2
  go_loopw [5, 6] (fun vd vk wr => ∃ k d : Nat, ∃ A : List (List Nat), k ≤ cols ∧ d ≤ n ∧ Gf.redM M k = (d, A) ∧ vk = .int .i64 k ∧ vd = .int .i64 d ∧ Mat wr lo hi (.slice va n vc) (ciM A) ∧ Chg lo hi w wr) (fun _ vk _ => cols - (intOf vk).toNat)
  case atStart => exact ⟨0, 0, M, Nat.zero_le _, Nat.zero_le _, rfl, rfl, rfl, H.out, Chg.refl _ _ _⟩
  case round =>
    obtain ⟨k, d, A, hk, hd, hr, rfl, rfl, hM, hC⟩ := hrel
    have MH := hide hM
    have C := hide hC
    have HR := hide hr
    have hsa := (S.out.red k).1
    rw [hr] at hsa
    have SA := hide hsa
    clear hM hC hr hsa
    have done : (¬ k < cols ∨ ¬ d < n) → res = (d, A) := by
      intro hh
      rw [RS.out]
      rcases hh with hh | hh
      · obtain rfl : k = cols := by omega
        exact HR.out
      · obtain ⟨j, hj⟩ : ∃ j, cols = k + j := ⟨cols - k, by omega⟩
        rw [hj, Gf.redM_stop (by rw [HR.out, HL.out]; simp only []; omega), HR.out]
    have DN := hide done
    clear done
    by_cases hlt : k < cols
    · have hlt' : (k : Int) < (cols : Int) := by omega
      by_cases hdn : d < n
      · have hdn' : (d : Int) < (n : Int) := by omega
        go_wp2_with fail
        refine (swapUp_calls _ A n c d k lo hi _ MH.out SA.out hdn (by omega) hn hcn).mono ?_
        obtain ⟨pv, hpv⟩ : ∃ pv, pv = piv A d k := ⟨_, rfl⟩
        rw [← hpv]
        have PV := hide hpv
        rintro e w1 ⟨rfl, hm1, hc1⟩
        have M1 := hide hm1
        have C1 := hide (C.out.trans hc1)
        clear hm1 hc1
        cases pv with
        | none =>
          clear hpv
          go_wp2
          go_roundw
          case rel =>
            refine ⟨k + 1, d, A, by omega, hd, ?_, by go_num, rfl, M1.out, C1.out⟩
            rw [Gf.redM, HR.out, HL.out, if_pos hdn]
            simp only []
            rw [← PV.out]
          case measure => simp [intOf]; omega
        | some p =>
          have hp := Gf.piv_facts hpv.symm
          rw [SA.out.len] at hp
          clear hpv
          have hpn : p < n := hp.2.1
          clear hp
          have hsw := SA.out.swap d p hdn hpn
          obtain ⟨A1, hA1⟩ : ∃ A1, A1 = swapM A d p := ⟨_, rfl⟩
          have hm1 : Mat w1 lo hi (.slice va n vc) (ciM A1) := by rw [hA1]; exact M1.out
          rw [← hA1] at hsw
          obtain ⟨vs, hm1⟩ := hm1
          have hdl : d < (ciM A1).length := by rw [Gf.ciM_length, hsw.len]; exact hdn
          obtain ⟨g, cap, hv, _, _, _, _⟩ := hm1.open (by rw [Gf.ciM_length, hsw.len]; omega)
          rw [Gf.ciM_length, hsw.len] at hv
          simp only [Value.slice.injEq, true_and] at hv
          obtain ⟨rfl, rfl⟩ := hv
          have hcd := hm1.cell d hdl
          have hro := hm1.row d hdl
          rw [Gf.ciM_get] at hro
          have MV := hide hm1
          have SW := hide hsw
          have RO := hide hro
          have HA1 := hide hA1
          have DL := hide hdl
          obtain ⟨u, hu⟩ : ∃ u, u = vs.getD d nilRow := ⟨_, rfl⟩
          rw [← hu] at hcd
          have U := hide hu
          have T1 := hide (Gf.tab_chg T.out C1.out hlo)
          clear hm1 hsw hro hA1 hdl hu
          go_wp2_with fail
          refine (Gf.headOne_calls u (A1.getD d []) k lo _ T1.out (by rw [U.out]; exact RO.out) hlo (by rw [SW.out.row d hdn]; exact hcn) (SW.out.lt d hdn) (by rw [SW.out.row d hdn]; omega)).mono ?_
          rintro e w2 ⟨rfl, ho, hg⟩
          rw [U.out] at ho hg
          have hm2 := MV.out.write d DL.out _ ho hg
          have hc2 := MV.out.writeChg d DL.out hg
          rw [Gf.ciM_set] at hm2
          have M2 := hide hm2
          have C2 := hide (C1.out.trans hc2)
          have T2 := hide (Gf.tab_chg T.out C2.out hlo)
          have S2 := hide (SW.out.head d ((A1.getD d []).getD k 0) hdn)
          clear ho hg hm2 hc2
          go_wp2_with fail
          refine (clearColumn_calls _ (headM A1 d ((A1.getD d []).getD k 0)) n c d k lo hi _ T2.out ⟨_, M2.out⟩ S2.out hdn (by omega) hn hcn hlo).mono ?_
          rintro e w3 ⟨rfl, hm3, hc3⟩
          have M3 := hide hm3
          have C3 := hide (C2.out.trans hc3)
          clear hm3 hc3
          go_wp2
          go_roundw
          case rel =>
            refine ⟨k + 1, d + 1, clr A d k p, by omega, by omega, ?_, by go_num, by go_num, ?_, C3.out⟩
            · rw [Gf.redM, HR.out, HL.out, if_pos hdn]
              simp only []
              rw [← PV.out]
            · have := M3.out
              rw [HA1.out, clr_parts A n c d k p SA.out hdn hpn] at this
              exact this
          case measure => simp [intOf]; omega
      · go_wp2
        go_ret
        have := DN.out (.inr hdn)
        rw [this]
        exact ⟨rfl, MH.out, C.out⟩
    · go_wp2
      go_ret
      have := DN.out (.inl hlt)
      rw [this]
      exact ⟨rfl, MH.out, C.out⟩
end Go.Proofs.YtcmohfckhikejaaDoor

namespace Go.Proofs.YtcmohfckhikejaaDoor
open Go.RowKit
open Gf (ci ciM swapM pf piv Sh AllLt clearM addRow headM opM hOf fOf clr sc inv mul amTo)

def pvI : Option Nat → Int
  | some p => p
  | none => -1
def clrA (A : List (List Nat)) (at_ col : Nat) : Option Nat → List (List Nat)
  | some p => clr A at_ col p
  | none => A
def clrS (A S : List (List Nat)) (at_ col : Nat) : Option Nat → List (List Nat)
  | some p => opM S at_ p (hOf A col p) (fOf A at_ col p)
  | none => S

set_option maxRecDepth 100000 in
set_option maxHeartbeats 3200000 in
theorem l2Clear_calls (av sv : Value) (A S : List (List Nat)) (n c d at_ col lo1 hi1 lo2 hi2 : Nat) (w : World) (hA : Mat w lo1 hi1 av (ciM A)) (hS : Mat w lo2 hi2 sv (ciM S)) (sa : Sh A n c) (ss : Sh S n d) (ha : at_ < n) (hc : col < c) (hd1 : 1 ≤ d)
    (hn : n ≤ 1048576) (hcn : c ≤ 1048576) (hdn : d ≤ 1048576) (h12 : hi1 ≤ lo2) :
    Calls Tryd.prog 82 #[av, sv, .int .i64 at_, .int .i64 col] w fun e w' => e = .returned (.bool (piv A at_ col).isSome) ∧ Mat w' lo1 hi1 av (ciM (clrA A at_ col (piv A at_ col))) ∧ Mat w' lo2 hi2 sv (ciM (clrS A S at_ col (piv A at_ col))) ∧ Chg lo1 hi2 w w' := by
  have lenA := sa.len
  have lenS := ss.len
  obtain ⟨vsA, hA⟩ := hA
  obtain ⟨vsS, hS⟩ := hS
  obtain ⟨g, cap, hv, hl1, _, _, _⟩ := hA.open (by rw [Gf.ciM_length, lenA]; omega)
  rw [Gf.ciM_length, lenA] at hv
  subst hv
  obtain ⟨sg, scap, hsv, hl2, _, _, _⟩ := hS.open (by rw [Gf.ciM_length, lenS]; omega)
  rw [Gf.ciM_length, lenS] at hsv
  subst hsv
  have ht1 := hA.top g rfl
  have ht2 := hS.top sg rfl
  have hlohi : lo1 ≤ lo2 ∧ hi1 ≤ hi2 := by omega
  have LH := hide hlohi
  clear ht1 ht2 hlohi hl1 hl2
  obtain ⟨pv, hpv⟩ : ∃ pv, pv = piv A at_ col := ⟨_, rfl⟩
  rw [← hpv]
  have PV := hide hpv
  have HA := hide hA
  have HS := hide hS
  have SA := hide sa
  have SS := hide ss
  have LA := hide lenA
  have LS := hide lenS
  have hc' : (col : Int) < (c : Int) := by omega
  have i2 : (0 : Int) ≤ (col : Int) := by omega
  have i3 : (0 : Int) ≤ (at_ : Int) := by omega
  have ha' : (at_ : Int) < (n : Int) := by omega
  clear hpv hA hS sa ss lenA lenS
  go_enter Tryd.func82, Tryd.ntmps82
  go_wp2
  go_loop [9, 10] (fun vp vi => ∃ j : Nat, at_ ≤ j ∧ j ≤ n ∧ vi = .int .i64 ((j : Int) - 1) ∧ vp = .int .i64 (pvI (pf A col (n - j) j))) (fun _ vi => (intOf vi + 1).toNat)
  case atStart =>
    refine ⟨n, by omega, Nat.le_refl _, rfl, ?_⟩
    rw [Nat.sub_self]
    rfl
  case round =>
    obtain ⟨j, hj1, hj2, rfl, rfl⟩ := hrel
    by_cases hlt : at_ < j
    · obtain ⟨i, rfl⟩ : ∃ i, j = i + 1 := ⟨j - 1, by omega⟩
      have e0 : (((i + 1 : Nat) : Int) - 1) = (i : Int) := by omega
      have hin : i < n := by omega
      have hil : i < (ciM A).length := by rw [Gf.ciM_length, LA.out]; exact hin
      have hc1 := HA.out.cell i hil
      have hro := HA.out.row i hil
      rw [Gf.ciM_get] at hro
      obtain ⟨g2, cap2, hu, _, _, _, _⟩ := hro.open1 (by rw [Gf.ci_length, SA.out.row i hin]; omega)
      rw [Gf.ci_length, SA.out.row i hin] at hu
      rw [hu] at hro hc1
      obtain ⟨_, hce⟩ := hro.at col (by rw [Gf.ci_length, SA.out.row i hin]; exact hc)
      rw [Gf.ci_getD] at hce
      obtain ⟨x, hx⟩ : ∃ x, x = (A.getD i []).getD col 0 := ⟨_, rfl⟩
      rw [← hx] at hce
      obtain ⟨old, hold⟩ : ∃ o, o = pvI (pf A col (n - (i + 1)) (i + 1)) := ⟨_, rfl⟩
      rw [← hold]
      have hst := Gf.pf_step (M := A) (col := col) (j := i) (by rw [LA.out]; exact hin)
      rw [← hx, LA.out] at hst
      have ST := hide hst
      have OLD := hide hold
      have i0 : (0 : Int) ≤ (i : Int) := by omega
      have i1 : (i : Int) < (n : Int) := by omega
      have i4 : (at_ : Int) ≤ (i : Int) := by omega
      clear hro hu hx hold hst
      by_cases h0 : x = 0
      · subst h0
        go_wp2
        go_round
        case rel =>
          refine ⟨i, by omega, by omega, by go_num, ?_⟩
          rw [ST.out, if_neg (by simp), OLD.out]
        case measure => simp [intOf] <;> omega
      · have h0' : ((x : Int) == 0) = false := by simp; exact h0
        go_wp2
        go_round
        case rel =>
          refine ⟨i, by omega, by omega, by go_num, ?_⟩
          rw [ST.out, if_pos h0]
          show Value.int .i64 _ = Value.int .i64 ((i : Nat) : Int)
          first | rfl | rw [show (((i + 1 : Nat) : Int) - 1) = (i : Int) from by omega]
        case measure => simp [intOf] <;> omega
    · obtain rfl : j = at_ := by omega
      have hpe : pf A col (n - j) j = pv := by rw [PV.out]; unfold piv; rw [LA.out]
      rw [hpe]
      have e9 : ¬ ((j : Int) ≤ (j : Int) - 1) := by omega
      cases pv with
      | none =>
        have e1 : pvI none = -1 := rfl
        rw [e1]
        clear hpe e1
        go_wp2
        go_ret
        exact ⟨rfl, ⟨_, HA.out⟩, ⟨_, HS.out⟩, Chg.refl _ _ _⟩
      | some p =>
        have e1 : pvI (some p) = (p : Int) := rfl
        rw [e1]
        have hp := Gf.piv_facts PV.out.symm
        rw [LA.out] at hp
        have hpn : p < n := hp.2.1
        have hp0 : ¬ ((p : Int) < 0) := by omega
        clear hpe e1 hp
        go_wp2_with fail
        refine (l2Swap_calls _ A j p lo1 hi1 _ ⟨_, HA.out⟩ (by rw [LA.out]; exact ha) (by rw [LA.out]; exact hpn) (by rw [LA.out]; exact hn)).mono ?_
        rintro e w1 ⟨rfl, hm1, hc1⟩
        have M1 := hide hm1
        have S1 := hide (HS.out.chg hc1 (.inr h12))
        have C1 := hide (hc1.wider (Nat.le_refl _) LH.out.2)
        clear hm1 hc1
        go_wp2_with fail
        refine (l2Swap_calls _ S j p lo2 hi2 _ ⟨_, S1.out⟩ (by rw [LS.out]; exact ha) (by rw [LS.out]; exact hpn) (by rw [LS.out]; exact hn)).mono ?_
        rintro e w2 ⟨rfl, hm2, hc2⟩
        obtain ⟨va, hva⟩ := M1.out
        have hma := hva.chg hc2 (.inl h12)
        have C2 := hide (C1.out.trans (hc2.wider LH.out.1 (Nat.le_refl _)))
        obtain ⟨vs, hms⟩ := hm2
        clear hc2 hva
        obtain ⟨A1, hA1⟩ : ∃ A1, A1 = swapM A j p := ⟨_, rfl⟩
        obtain ⟨S1', hS1'⟩ : ∃ S1, S1 = swapM S j p := ⟨_, rfl⟩
        have shA := SA.out.swap j p ha hpn
        have shS := SS.out.swap j p ha hpn
        have hH : ((swapM A j p).getD j []).getD col 0 = hOf A col p := by
          rw [Gf.swapM_get _ _ _ _ (by rw [LA.out]; exact ha) (by rw [LA.out]; exact hpn)]
          unfold hOf
          by_cases e : j = p
          · rw [if_pos e, e]
          · rw [if_neg e, if_pos rfl]
        obtain ⟨x, hx⟩ : ∃ x, x = hOf A col p := ⟨_, rfl⟩
        have hx256 : x < 256 := by rw [hx]; exact SA.out.elt p col
        rw [← hx, ← hA1] at hH
        rw [← hA1] at hma shA
        rw [← hS1'] at hms shS
        have hjl : j < (ciM A1).length := by rw [Gf.ciM_length, shA.len]; exact ha
        have hjs : j < (ciM S1').length := by rw [Gf.ciM_length, shS.len]; exact ha
        have hcj := hma.cell j hjl
        have hro := hma.row j hjl
        rw [Gf.ciM_get] at hro
        obtain ⟨g2, cap2, hu, _, _, _, _⟩ := hro.open1 (by rw [Gf.ci_length, shA.row j ha]; omega)
        rw [Gf.ci_length, shA.row j ha] at hu
        have HU := hide hu
        have RO := hide hro
        rw [hu] at hcj hro
        obtain ⟨_, hce⟩ := hro.at col (by rw [Gf.ci_length, shA.row j ha]; exact hc)
        rw [Gf.ci_getD, hH] at hce
        have HA1 := hide hA1
        have HS1 := hide hS1'
        have HX := hide hx
        have MA := hide hma
        have MS := hide hms
        have ShA := hide shA
        have ShS := hide shS
        have JL := hide hjl
        have JS := hide hjs
        clear hA1 hS1' hx hma hms shA shS hjl hjs hro hu hH
        go_wp2_with fail
        refine (Gf.l2Scale_calls _ (A1.getD j []) x lo1 _ (by rw [← HU.out]; exact RO.out) (by rw [ShA.out.row j ha]; exact hcn) (ShA.out.lt j ha) (by rw [ShA.out.row j ha]; omega) hx256).mono ?_
        rintro e w3 ⟨rfl, ho, hg⟩
        rw [← HU.out] at ho hg
        have hm3 := MA.out.write j JL.out _ ho hg
        have hc3 := MA.out.writeChg j JL.out hg
        rw [Gf.ciM_set] at hm3
        have hs3 := MS.out.chg hc3 (.inr h12)
        have C3 := hide (C2.out.trans (hc3.wider (Nat.le_refl _) LH.out.2))
        have M3 := hide hm3
        have hcs := hs3.cell j JS.out
        have hros := hs3.row j JS.out
        rw [Gf.ciM_get] at hros
        obtain ⟨su, hsu⟩ : ∃ su, su = vs.getD j nilRow := ⟨_, rfl⟩
        rw [← hsu] at hcs
        have SU := hide hsu
        have S3 := hide hs3
        have ROS := hide hros
        clear ho hg hm3 hc3 hs3 hros hsu hcj hce
        go_wp2_with fail
        refine (Gf.l2Scale_calls su (S1'.getD j []) x lo2 _ (by rw [SU.out]; exact ROS.out) (by rw [ShS.out.row j ha]; exact hdn) (ShS.out.lt j ha) (by rw [ShS.out.row j ha]; omega) hx256).mono ?_
        rintro e w4 ⟨rfl, ho, hg⟩
        rw [SU.out] at ho hg
        have hs4 := S3.out.write j JS.out _ ho hg
        have hc4 := S3.out.writeChg j JS.out hg
        rw [Gf.ciM_set] at hs4
        have hm4 := M3.out.chg hc4 (.inl h12)
        have C4 := hide (C3.out.trans (hc4.wider LH.out.1 (Nat.le_refl _)))
        obtain ⟨A2, hA2⟩ : ∃ A2, A2 = headM A1 j x := ⟨_, rfl⟩
        obtain ⟨S2, hS2⟩ : ∃ S2, S2 = headM S1' j x := ⟨_, rfl⟩
        have shA2 := ShA.out.head j x ha
        have shS2 := ShS.out.head j x ha
        rw [← hA2] at shA2
        rw [← hS2] at shS2
        have hm4' : MatV w4 lo1 hi1 (.slice (some ⟨g, 0, none⟩) n cap) va (ciM A2) := by rw [hA2]; exact hm4
        have hs4' : MatV w4 lo2 hi2 (.slice (some ⟨sg, 0, none⟩) n scap) vs (ciM S2) := by rw [hS2]; exact hs4
        obtain ⟨fs, hfs⟩ : ∃ fs, fs = fOf A j col p := ⟨_, rfl⟩
        have hf256 : ∀ i, fs i < 256 := fun i => by rw [hfs]; exact (SA.out.swap j p ha hpn).elt i col
        have hfsk : ∀ k, k ≠ j → (A2.getD k []).getD col 0 = fs k := by
          intro k hk
          rw [hA2, hfs, HA1.out]
          unfold headM fOf
          rw [getD_set _ _ _ _ _ (by rw [Gf.swapM_length, LA.out]; exact ha), if_neg hk]
        have M4 := hide hm4'
        have S4 := hide hs4'
        have SA2 := hide shA2
        have SS2 := hide shS2
        have F256 := hide hf256
        have FSK := hide hfsk
        have HFS := hide hfs
        have HA2 := hide hA2
        have HS2 := hide hS2
        clear ho hg hs4 hc4 hm4 hm4' hs4' hA2 hS2 shA2 shS2 hfs hf256 hfsk hcs
        go_wp2
        go_loopw [62] (fun vi wr => ∃ k : Nat, k ≤ n ∧ vi = .int .i64 k ∧ MatV wr lo1 hi1 (.slice (some ⟨g, 0, none⟩) n cap) va (ciM (clearM A2 j fs k)) ∧ MatV wr lo2 hi2 (.slice (some ⟨sg, 0, none⟩) n scap) vs (ciM (clearM S2 j fs k)) ∧ Chg lo1 hi2 w wr) (fun vi _ => n - (intOf vi).toNat)
        case atStart => exact ⟨0, Nat.zero_le _, rfl, by rw [Gf.clearM_zero]; exact M4.out, by rw [Gf.clearM_zero]; exact S4.out, C4.out⟩
        case round =>
          obtain ⟨k, hk, rfl, hM, hSM, hC⟩ := hrel
          have SC := hide (SA2.out.clear ha F256.out k)
          have SCS := hide (SS2.out.clear ha F256.out k)
          have MH := hide hM
          have MSH := hide hSM
          have C := hide hC
          clear hC
          by_cases hlt : k < n
          · have hlt' : (k : Int) < (n : Int) := by omega
            have hkl : k < (ciM (clearM A2 j fs k)).length := by rw [Gf.ciM_length, SC.out.len]; exact hlt
            have hbl : j < (ciM (clearM A2 j fs k)).length := by rw [Gf.ciM_length, SC.out.len]; exact ha
            have hkls : k < (ciM (clearM S2 j fs k)).length := by rw [Gf.ciM_length, SCS.out.len]; exact hlt
            have hbls : j < (ciM (clearM S2 j fs k)).length := by rw [Gf.ciM_length, SCS.out.len]; exact ha
            have hck := hM.cell k hkl
            have hro := hM.row k hkl
            rw [Gf.ciM_get] at hro
            have hgk : (clearM A2 j fs k).getD k [] = A2.getD k [] := by rw [Gf.clearM_get _ _ _ _ _ (by rw [SA2.out.len]; exact hlt), if_neg (fun h' => by omega)]
            rw [hgk] at hro
            obtain ⟨g3, cap3, hu, _, _, _, _⟩ := hro.open1 (by rw [Gf.ci_length, SA2.out.row k hlt]; omega)
            rw [Gf.ci_length, SA2.out.row k hlt] at hu
            have HU3 := hide hu
            rw [hu] at hck hro
            obtain ⟨_, hce⟩ := hro.at col (by rw [Gf.ci_length, SA2.out.row k hlt]; exact hc)
            rw [Gf.ci_getD] at hce
            have i0 : (0 : Int) ≤ (k : Int) := by omega
            obtain ⟨f, hf⟩ : ∃ f, f = (A2.getD k []).getD col 0 := ⟨_, rfl⟩
            rw [← hf] at hce
            have O := hide hro
            by_cases heq : k = j
            · subst heq
              have e1 : ((k : Int) == (k : Int)) = true := by simp
              clear hM hSM hro hu hf
              go_wp2
              go_roundw
              case rel =>
                refine ⟨k + 1, by omega, by go_num, ?_, ?_, C.out⟩
                · rw [← Gf.clearM_skip]; exact MH.out
                · rw [← Gf.clearM_skip]; exact MSH.out
              case measure => simp [intOf]; omega
            · have e1 : ((k : Int) == (j : Int)) = false := by simp; omega
              have hfk := FSK.out k heq
              rw [← hf] at hfk
              by_cases hf0 : f = 0
              · have hz : fs k = 0 := by rw [← hfk, hf0]
                have Z := hide hz
                subst hf0
                clear hM hSM hro hu hf hfk hz
                go_wp2
                go_roundw
                case rel =>
                  refine ⟨k + 1, by omega, by go_num, ?_, ?_, C.out⟩
                  · rw [← Gf.clearM_same A2 j fs k (by rw [SA2.out.len]; exact hlt) (by rw [Z.out]; exact Gf.addRow_zero (by rw [SA2.out.row k hlt, SA2.out.row j ha]) (SA2.out.lt j ha))]
                    exact MH.out
                  · rw [← Gf.clearM_same S2 j fs k (by rw [SS2.out.len]; exact hlt) (by rw [Z.out]; exact Gf.addRow_zero (by rw [SS2.out.row k hlt, SS2.out.row j ha]) (SS2.out.lt j ha))]
                    exact MSH.out
                case measure => simp [intOf]; omega
              · have e2 : ((f : Int) == 0) = false := by simp; exact hf0
                have e3 : ((f : Int) != 0) = true := by simp; exact hf0
                have e4 : ((k : Int) != (j : Int)) = true := by simp; omega
                have hgb : (clearM A2 j fs k).getD j [] = A2.getD j [] := by rw [Gf.clearM_get _ _ _ _ _ (by rw [SA2.out.len]; exact ha), if_neg (fun h' => h'.2 rfl)]
                have hgks : (clearM S2 j fs k).getD k [] = S2.getD k [] := by rw [Gf.clearM_get _ _ _ _ _ (by rw [SS2.out.len]; exact hlt), if_neg (fun h' => by omega)]
                have hgbs : (clearM S2 j fs k).getD j [] = S2.getD j [] := by rw [Gf.clearM_get _ _ _ _ _ (by rw [SS2.out.len]; exact ha), if_neg (fun h' => h'.2 rfl)]
                have hcb := hM.cell j hbl
                have hf256 : f < 256 := by rw [hfk]; exact F256.out k
                obtain ⟨bu, hbu⟩ : ∃ bu, bu = va.getD j nilRow := ⟨_, rfl⟩
                rw [← hbu] at hcb
                have BU := hide hbu
                have FK := hide hfk
                have KL := hide hkl
                have BL := hide hbl
                have KLS := hide hkls
                have BLS := hide hbls
                have GB := hide hgb
                have GKS := hide hgks
                have GBS := hide hgbs
                have QG : Hid (∀ w', wr.grownBy w' (some g3) → Rd w' bu (ci (A2.getD j []))) := fun w' hg => by
                  have := MH.out.other k j KL.out BL.out (fun h => heq h.symm) (by rw [HU3.out]; exact hg)
                  rw [Gf.ciM_get, GB.out, ← BU.out] at this
                  exact this.rd
                have i1 : (0 : Int) ≤ (j : Int) := by omega
                have DD := hide (SS2.out.row k hlt)
                have DJ := hide (SS2.out.row j ha)
                have CC := hide (SA2.out.row k hlt)
                have CJ := hide (SA2.out.row j ha)
                clear hM hSM hro hu hf hfk hbu hkl hbl hkls hbls hgb hgks hgbs hgk
                go_wp2
                go_region_with (go_at_call 70; refine (Gf.l2Add_calls (.slice (some ⟨g3, 0, none⟩) c cap3) bu (A2.getD k []) (A2.getD j []) f lo1 wr.drew (by exact O.out.drew) (fun w' hg => QG.out w' ⟨hg.os, hg.tape, hg.output, hg.size, hg.block⟩) hf256 (by rw [CC.out, CJ.out]; omega) (by rw [CC.out]; omega) (SA2.out.lt k hlt) (SA2.out.lt j ha) (by rw [CC.out]; omega)).mono ?_; rintro e w' ⟨rfl, ho, hg⟩)
                all_goals
                  have ho2 : Own w' lo1 (va.getD k nilRow) (ci (addRow (A2.getD k []) (A2.getD j []) (fs k))) := by
                    rw [HU3.out, ← FK.out, ← Gf.amTo_add _ _ _ (by rw [CC.out, CJ.out])]
                    exact ho
                  have hg2' : wr.grownBy w' (va.getD k nilRow).ownBlock := by
                    rw [HU3.out]
                    exact ⟨hg.os, hg.tape, hg.output, hg.size, hg.block⟩
                  have hM5 := MH.out.write k KL.out _ ho2 hg2'
                  have hC5 := MH.out.writeChg k KL.out hg2'
                  rw [Gf.ciM_set, Gf.clearM_step _ _ _ _ heq] at hM5
                  have hS5 := MSH.out.chg hC5 (.inr h12)
                  have M5 := hide hM5
                  have S5 := hide hS5
                  have C5 := hide (C.out.trans (hC5.wider (Nat.le_refl _) LH.out.2))
                  have hck2 := hS5.cell k KLS.out
                  have hcb2 := hS5.cell j BLS.out
                  have hro2 := hS5.row k KLS.out
                  rw [Gf.ciM_get, GKS.out] at hro2
                  obtain ⟨su2, hsu2⟩ : ∃ su, su = vs.getD k nilRow := ⟨_, rfl⟩
                  obtain ⟨sb2, hsb2⟩ : ∃ sb, sb = vs.getD j nilRow := ⟨_, rfl⟩
                  rw [← hsu2] at hck2 hro2
                  rw [← hsb2] at hcb2
                  have SU2 := hide hsu2
                  have SB2 := hide hsb2
                  have O5 := hide hro2
                  have QG5 : Hid (∀ w2, w'.grownBy w2 su2.ownBlock → Rd w2 sb2 (ci (S2.getD j []))) := fun w2 hg => by
                    have := S5.out.other k j KLS.out BLS.out (fun h => heq h.symm) (by rw [← SU2.out]; exact hg)
                    rw [Gf.ciM_get, GBS.out, ← SB2.out] at this
                    exact this.rd
                  clear ho hg ho2 hg2' hM5 hC5 hS5 hro2 hsu2 hsb2
                  go_wp2
                  go_region_with (go_at_call 70; refine (Gf.l2Add_calls su2 sb2 (S2.getD k []) (S2.getD j []) f lo2 w'.drew (by exact O5.out.drew) (fun w2 hg => QG5.out w2 ⟨hg.os, hg.tape, hg.output, hg.size, hg.block⟩) hf256 (by rw [DD.out, DJ.out]; omega) (by rw [DD.out]; omega) (SS2.out.lt k hlt) (SS2.out.lt j ha) (by rw [DD.out]; omega)).mono ?_; rintro e w6 ⟨rfl, ho, hg⟩)
                  all_goals
                    have ho2 : Own w6 lo2 (vs.getD k nilRow) (ci (addRow (S2.getD k []) (S2.getD j []) (fs k))) := by
                      rw [← SU2.out, ← FK.out, ← Gf.amTo_add _ _ _ (by rw [DD.out, DJ.out])]
                      exact ho
                    have hg2' : w'.grownBy w6 (vs.getD k nilRow).ownBlock := by
                      rw [← SU2.out]
                      exact ⟨hg.os, hg.tape, hg.output, hg.size, hg.block⟩
                    have hM6 := S5.out.write k KLS.out _ ho2 hg2'
                    have hC6 := S5.out.writeChg k KLS.out hg2'
                    rw [Gf.ciM_set, Gf.clearM_step _ _ _ _ heq] at hM6
                    have M6 := hide (M5.out.chg hC6 (.inl h12))
                    have S6 := hide hM6
                    have C6 := hide (C5.out.trans (hC6.wider LH.out.1 (Nat.le_refl _)))
                    clear ho hg ho2 hg2' hM6 hC6
                    go_wp2
                    go_roundw
                    case rel => exact ⟨k + 1, by omega, by go_num, M6.out, S6.out, C6.out⟩
                    case measure => simp [intOf]; omega
          · obtain rfl : k = n := by omega
            clear hM hSM
            go_wp2
            go_ret
            refine ⟨rfl, ⟨va, ?_⟩, ⟨vs, ?_⟩, C.out⟩
            · have := MH.out
              rw [HA2.out, HA1.out, HX.out, HFS.out] at this
              unfold clrA clr opM
              rw [LA.out]
              exact this
            · have := MSH.out
              rw [HS2.out, HS1.out, HX.out, HFS.out] at this
              unfold clrS opM
              rw [LS.out]
              exact this
end Go.Proofs.YtcmohfckhikejaaDoor

namespace Go.Proofs.YtcmohfckhikejaaDoor
open Go.RowKit
open Gf (ci nat ciM swapM pf piv Sh AllLt clr redM)

theorem ciM_nat {m : List (List Int)} (h : goodM m = true) : ciM (m.map nat) = m := by
  unfold ciM
  rw [List.map_map]
  conv => rhs; rw [← List.map_id m]
  apply List.map_congr_left
  intro r hr
  simp only [goodM, Bool.and_eq_true] at h
  have := List.all_eq_true.1 h.2.2.2 r hr
  exact Gf.ci_nat this
theorem sh_nat {m : List (List Int)} (h : goodM m = true) : Sh (m.map nat) m.length (m.getD 0 []).length := by
  have f := (goodM_rows h).2.2.2.2
  refine ⟨by simp, fun i hi => ?_, fun i hi => ?_⟩
  · rw [natM_get, Gf.nat_length]; exact (f i hi).1
  · rw [natM_get]; exact Gf.nat_lt (f i hi).2
theorem dropM_zero (m : List (List Int)) : dropM m 0 = m := by simp [dropM]
def rankR (m : List (List Int)) : Int × Bool := if goodM m = true then (((redM (m.map nat) (m.getD 0 []).length).1 : Nat), true) else (0, false)

end Go.Proofs.YtcmohfckhikejaaDoor

namespace Go.Proofs.YtcmohfckhikejaaDoor
open Go.RowKit

def spl (ws : List Int) (off : Nat) (zs : List Int) : List Int := ws.take off ++ (zs ++ ws.drop (off + zs.length))
theorem spl_length (ws : List Int) (off : Nat) (zs : List Int) (h : off + zs.length ≤ ws.length) : (spl ws off zs).length = ws.length := by simp [spl]; omega
theorem own_setRow {w : World} {base g N off : Nat} {ws zs : List Int} (ho : Own w base (.slice (some ⟨g, 0, none⟩) N N) ws) (hfit : off + zs.length ≤ ws.length) :
    Own (w.setRow g ((ws.map (Value.int .i64)).toArray.toList.take off ++ (zs.map (Value.int .i64) ++ (ws.map (Value.int .i64)).toArray.toList.drop (off + (zs.map (Value.int .i64)).length))).toArray) base (.slice (some ⟨g, 0, none⟩) N N) (spl ws off zs) ∧
      w.grownBy (w.setRow g ((ws.map (Value.int .i64)).toArray.toList.take off ++ (zs.map (Value.int .i64) ++ (ws.map (Value.int .i64)).toArray.toList.drop (off + (zs.map (Value.int .i64)).length))).toArray) (some g) := by
  have hN : ws.length = N := by
    rcases ho.2 with ⟨h', _⟩ | ⟨g', cap', cur, h', _⟩
    · simp at h'
    · simp at h'; exact h'.2.1.symm
  have hbg : base ≤ g := (World.ownsRow.lt ho g rfl).1
  have hmx : N ≤ maxLen := by
    rcases ho.2 with ⟨h', _⟩ | ⟨g', cap', cur, h', _, _, _, hm, _⟩
    · simp at h'
    · simp at h'; omega
  have hg := own_full (by unfold Own at ho; rwa [hN] at ho)
  have e : ((ws.map (Value.int .i64)).toArray.toList.take off ++ (zs.map (Value.int .i64) ++ (ws.map (Value.int .i64)).toArray.toList.drop (off + (zs.map (Value.int .i64)).length))) = (spl ws off zs).map (Value.int .i64) := by simp [spl]
  rw [e]
  have hl : (spl ws off zs).length = N := by rw [spl_length _ _ _ hfit, hN]
  have := own_of_block (base := base) (setRow_heap w g _ ((spl ws off zs).map (Value.int .i64)).toArray 3 _ hg) hbg (by rw [hl]; exact hmx)
  rw [hl] at this
  exact ⟨this, rfl, rfl, rfl, by simp [World.setRow], fun k _ hk => setRow_other w g k _ (fun e => hk (by simp [e]))⟩
theorem rd_cells {w : World} {sp : Option Addr} {sLen sCap : Nat} {zs : List Int} (hr : Rd w (.slice sp sLen sCap) zs) (h0 : 0 < zs.length) : sLen = zs.length ∧ ∃ ad, sp = some ad ∧ ∀ j y, (zs.map (Value.int .i64))[j]? = some y → w.cell? (ad.add j) = some y := by
  obtain ⟨a', cap', hv, _, _, h3⟩ := hr
  simp only [Value.slice.injEq] at hv
  obtain ⟨rfl, rfl, rfl⟩ := hv
  refine ⟨rfl, ?_⟩
  rcases h3 with h3 | ⟨b, off, rfl, _, hc⟩
  · rw [h3] at h0; simp at h0
  · refine ⟨_, rfl, fun j y hj => ?_⟩
    have hjl : j < zs.length := by simpa using (List.getElem?_eq_some_iff.1 hj).1
    have hadd : (⟨b, off, none⟩ : Addr).add j = ⟨b, off + j, none⟩ := by unfold Addr.add; split <;> simp_all
    rw [hadd, hc j hjl]
    rw [List.getElem?_map, List.getElem?_eq_getElem hjl] at hj
    simp only [Option.map_some, Option.some.injEq] at hj
    rw [← hj, List.getD_eq_getElem?_getD, List.getElem?_eq_getElem hjl, Option.getD_some]
/-- 'copy(out[off:], p)', out a list of the call's own, p not longer than what is there. -/
theorem wpList_copy_at {w : World} {ops : Array Oper} {rest : List Oper} {o : Oper} {a : Act} {Q : Exit → Act → World → Prop} (hgd : o.guard = none) (d s : Operand)
    (ho : o.op = .call { callee := .builtin .copy, args := #[d, s], argTypes := #[31, 31] })
    (base g N off dLen dCap sLen sCap : Nat) (sp : Option Addr) (ws zs : List Int) (hd : a.eval d = .slice (some ⟨g, off, none⟩) dLen dCap) (hs : a.eval s = .slice sp sLen sCap)
    (hown : Own w base (.slice (some ⟨g, 0, none⟩) N N) ws) (hr : Rd w (.slice sp sLen sCap) zs) (h0 : 0 < zs.length) (hdl : zs.length ≤ dLen) (hfit : off + zs.length ≤ ws.length)
    (h : ∀ w', Own w' base (.slice (some ⟨g, 0, none⟩) N N) (spl ws off zs) → w.grownBy w' (some g) → wpList Tryd.prog ops Q rest (a.put o.dst (goInt zs.length)) w') : wpList Tryd.prog ops Q (o :: rest) a w := by
  obtain ⟨rfl, ad, rfl, hc⟩ := rd_cells hr h0
  have hN : ws.length = N := by
    rcases hown.2 with ⟨h', _⟩ | ⟨g', cap', cur, h', _⟩
    · simp at h'
    · simp at h'; exact h'.2.1.symm
  have hg := own_full (by unfold Own at hown; rwa [hN] at hown)
  refine wpList_copy_own (w := w) hgd d s 31 31 ho 3 Tryd.underlying31 infoSize g off dLen dCap ad zs.length sCap hd hs (ws.map (Value.int .i64)).toArray 3 hg (zs.map (Value.int .i64)) (by rw [List.length_map]; exact (Nat.min_eq_left hdl).symm) hc (by simp; omega) (ints_oneCell _ _) ?_
  obtain ⟨h1, h2⟩ := own_setRow hown hfit
  have := h _ h1 h2
  simp only [List.length_map] at this ⊢
  exact this
theorem step_copy_at {w : World} {ops : Array Oper} {o : Oper} {a : Act} {K : Act → World → Prop} {Q : Exit → Act → World → Prop} {E : Prop} (hgd : o.guard = none) (d s : Operand)
    (ho : o.op = .call { callee := .builtin .copy, args := #[d, s], argTypes := #[31, 31] })
    (base g N off dLen dCap sLen sCap : Nat) (sp : Option Addr) (ws zs : List Int) (hd : a.eval d = .slice (some ⟨g, off, none⟩) dLen dCap) (hs : a.eval s = .slice sp sLen sCap)
    (hown : Own w base (.slice (some ⟨g, 0, none⟩) N N) ws) (hr : Rd w (.slice sp sLen sCap) zs) (h0 : 0 < zs.length) (hdl : zs.length ≤ dLen) (hfit : off + zs.length ≤ ws.length)
    (h : ∀ w', Own w' base (.slice (some ⟨g, 0, none⟩) N N) (spl ws off zs) → w.grownBy w' (some g) → K (a.put o.dst (goInt zs.length)) w') :
    if Region.wanted o (yielded ops a.tmps) = true then Oper.wp Tryd.prog o a w K Q else E := by
  have hw : Region.wanted o (yielded ops a.tmps) = true := by simp [Region.wanted, hgd]
  rw [if_pos hw]
  obtain ⟨rfl, ad, rfl, hc⟩ := rd_cells hr h0
  have hN : ws.length = N := by
    rcases hown.2 with ⟨h', _⟩ | ⟨g', cap', cur, h', _⟩
    · simp at h'
    · simp at h'; exact h'.2.1.symm
  have hg := own_full (by unfold Own at hown; rwa [hN] at hown)
  have hrun := run_copy_row (P := Tryd.prog) w 31 31 o.type 3 g off dLen dCap ad zs.length sCap (ws.map (Value.int .i64)).toArray 3 (zs.map (Value.int .i64)) Tryd.underlying31 infoSize hg (by rw [List.length_map]; exact (Nat.min_eq_left hdl).symm) hc (by simp; omega) (ints_oneCell _ _)
  obtain ⟨h1, h2⟩ := own_setRow hown hfit
  have := h _ h1 h2
  unfold Oper.wp
  simp [execOp, ho, resolve, invoke, builtin, hd, hs, hrun, Result.andThen]
  simp at this
  exact this
end Go.Proofs.YtcmohfckhikejaaDoor

/-
  A word put right: the program's DecodeWord and its model's, call by call. The program's table of rests must hold its seven numbers where the program's own function is called.
-/
import Derived.Test.YtogopakmebiomaaDoorSFix
import Derived.Test.YtogopakmebiomaaDoorIsW
import Derived.Test.YtogopakmebiomaaDoorSLoc2
import Derived.Test.YtogopakmebiomaaDoorRootsI
import Derived.Test.YtogopakmebiomaaDoorWrP
namespace Go.Proofs.YtogopakmebiomaaDoor
open Go.RowKit
open Gf (ci nat AllLt synI locN plcN isB wdOk wOk rtR nought)

def locC (xs : List Int) (t : Int) : List Int := ci (locN (nat (synI xs (2 * t.toNat))))
def plcW (xs : List Int) (t : Int) : List Int := plcN (locC xs t) xs.length
def outW (xs : List Int) (t : Int) : List Int := fixW xs (plcW xs t) (synI xs (2 * t.toNat))
def plOkW (xs : List Int) (t : Int) : Bool := decide ((plcW xs t).length = (locC xs t).length - 1 ∧ 1 ≤ (plcW xs t).length ∧ ((plcW xs t).length : Int) ≤ t)
def decW (xs : List Int) (t : Int) : List Int × Int × Bool :=
  if wdOk xs t = true then
    if isB xs t = true then (xs, 0, true)
    else if plOkW xs t = true then
      if isB (outW xs t) t = true then (outW xs t, ((unpN xs (outW xs t) xs.length).length : Int), true) else ([], 0, false)
    else ([], 0, false)
  else ([], 0, false)
theorem decW_bad {xs : List Int} {t : Int} (h : wdOk xs t = false) : decW xs t = ([], 0, false) := by unfold decW; rw [h]; rfl
theorem decW_is {xs : List Int} {t : Int} (h : wdOk xs t = true) (h2 : isB xs t = true) : decW xs t = (xs, 0, true) := by unfold decW; rw [if_pos h, if_pos h2]
theorem decW_no {xs : List Int} {t : Int} (h : wdOk xs t = true) (h2 : isB xs t = false) (h3 : plOkW xs t = false) : decW xs t = ([], 0, false) := by unfold decW; rw [if_pos h, if_neg (by rw [h2]; decide), if_neg (by rw [h3]; decide)]
theorem decW_not {xs : List Int} {t : Int} (h : wdOk xs t = true) (h2 : isB xs t = false) (h3 : plOkW xs t = true) (h4 : isB (outW xs t) t = false) : decW xs t = ([], 0, false) := by unfold decW; rw [if_pos h, if_neg (by rw [h2]; decide), if_pos h3, if_neg (by rw [h4]; decide)]
theorem decW_yes {xs : List Int} {t : Int} (h : wdOk xs t = true) (h2 : isB xs t = false) (h3 : plOkW xs t = true) (h4 : isB (outW xs t) t = true) : decW xs t = (outW xs t, ((unpN xs (outW xs t) xs.length).length : Int), true) := by unfold decW; rw [if_pos h, if_neg (by rw [h2]; decide), if_pos h3, if_pos h4]
theorem unpN_comm (xs ys : List Int) (k : Nat) : unpN xs ys k = unpN ys xs k := by
  induction k with
  | zero => rfl
  | succ k ih =>
    rw [unpN, unpN, ih]
    by_cases h : xs.getD k 0 = ys.getD k 0
    · rw [if_pos h, if_pos h.symm]
    · rw [if_neg h, if_neg (fun e => h e.symm)]
theorem synI_all {xs : List Int} (h : xs.all Gf.elOk = true) (n : Nat) : (synI xs n).all Gf.elOk = true := by
  rw [List.all_eq_true]
  intro x hx
  obtain ⟨k, _, rfl⟩ := List.mem_map.1 hx
  have : Gf.ev (Gf.pow 2 k) xs < 256 := Gf.ev_lt (Gf.all_mem h)
  exact Gf.elOk_iff.2 (by omega)
/-- What the parts of a word that is taken are. -/
structure WdF (xs : List Int) (t : Int) (n : Nat) : Prop where
  nt : t = (n : Int)
  n1 : 1 ≤ n
  n3 : n ≤ 3
  len : xs.length ≤ 24
  el : xs.all Gf.elOk = true
  sl : (synI xs (2 * n)).length = 2 * n
  sel : (synI xs (2 * n)).all Gf.elOk = true
  loc : Gf.locR (synI xs (2 * n)) = (locC xs n, true)
  cg : Gf.goodP (locC xs n) = true
  c1 : 1 ≤ (locC xs n).length
  c7 : (locC xs n).length ≤ 7
  sn : AllLt (nat (synI xs (2 * n)))
  scn : ci (nat (synI xs (2 * n))) = synI xs (2 * n)
theorem wd_facts {xs : List Int} {t : Int} (h : wdOk xs t = true) : ∃ n : Nat, WdF xs t n := by
  obtain ⟨h1, h2, h3, h4⟩ := Gf.wdOk_yes h
  obtain ⟨q1, q3⟩ := Gf.wOk_iff.1 h1
  obtain ⟨n, rfl⟩ := Int.eq_ofNat_of_zero_le (a := t) (by omega)
  have hsl := Gf.synI_length xs (2 * n)
  have hse := synI_all h4 (2 * n)
  have hsn := Gf.nat_lt hse
  have hlen : (locN (nat (synI xs (2 * n)))).length ≤ 2 * n + 1 := by
    have := Gf.locN_le hsn
    rwa [Gf.nat_length, hsl] at this
  have hcut : locC xs n = cutL (ci (Gf.bmTo (nat (synI xs (2 * n))) (nat (synI xs (2 * n))).length).c) := by
    show ci (locN (nat (synI xs (2 * (n : Int).toNat)))) = _
    rw [Int.toNat_natCast, Gf.cutL_nl]
    rfl
  have hinv := Gf.bm_inv hsn (nat (synI xs (2 * n))).length (Nat.le_refl _)
  have hcl : (locC xs n).length = (locN (nat (synI xs (2 * n)))).length := by
    show (ci (locN (nat (synI xs (2 * (n : Int).toNat))))).length = _
    rw [Gf.ci_length, Int.toNat_natCast]
  refine ⟨n, rfl, by omega, by omega, h3, h4, hsl, hse, ?_, ?_, ?_, by omega, hsn, Gf.ci_nat hse⟩
  · rw [Gf.locR_yes (by simp only [Gf.locOk, hse, Bool.and_true, decide_eq_true_eq]; omega)]
    show (ci (locN (nat (synI xs (2 * n)))), true) = (ci (locN (nat (synI xs (2 * (n : Int).toNat)))), true)
    rw [Int.toNat_natCast]
  · rw [hcut]
    exact Gf.goodP_cut hinv.cl (by rw [hinv.len, Gf.nat_length, hsl]; omega)
  · rw [hcl]
    by_cases h0 : (locN (nat (synI xs (2 * n)))).length = 0
    · exfalso
      have e : Gf.fn (locN (nat (synI xs (2 * n)))) 0 = 0 := Gf.fn_far (by omega)
      unfold Gf.locN at e
      rw [Gf.cutNl_fn, hinv.one] at e
      cases e
    · omega
theorem outW_len (xs : List Int) (t : Int) : (outW xs t).length = xs.length := by
  unfold outW fixW
  rw [Gf.ci_length, fixN_length, Gf.nat_length]
theorem ci_all {l : List Nat} (h : AllLt l) : (ci l).all Gf.elOk = true := by
  rw [Gf.all_of_getD]
  intro i _
  have := h i
  rw [Gf.ci_getD]
  exact Gf.elOk_iff.2 (by omega)
theorem outW_el {xs : List Int} {n : Nat} (f : WdF xs n n) (hp : plOkW xs n = true) : (outW xs n).all Gf.elOk = true := by
  unfold plOkW at hp
  simp only [decide_eq_true_eq] at hp
  have hok := plcN_ok (locC xs n) xs.length f.len
  have hn3 := f.n3
  have hsok : (slvR (vanM (plcW xs n)) ((synI xs (2 * n)).take (plcW xs n).length)).2 = true := by
    refine van_ok hok.1 hp.2.1 (by omega) (by rw [List.length_take, f.sl]; omega) ?_
    rw [List.all_eq_true]
    intro x hx
    exact List.all_eq_true.1 f.sel x (List.mem_of_mem_take hx)
  obtain ⟨S, hS1, hS2, _, _, hS3, _⟩ := slv_facts hsok
  unfold outW fixW
  rw [Int.toNat_natCast, hS1, nat_ci]
  exact ci_all (fixN_lt (Gf.nat_lt f.el) hS3 _)
theorem decW_len (xs : List Int) (t : Int) : (decW xs t).1.length ≤ 1048576 := by
  cases h : wdOk xs t with
  | false => rw [decW_bad h]; show 0 ≤ _; omega
  | true =>
    have hl := (Gf.wdOk_yes h).2.2.1
    have ho := outW_len xs t
    unfold decW
    rw [if_pos h]
    split
    · show xs.length ≤ _; omega
    · split
      · split
        · show (outW xs t).length ≤ _; omega
        · show 0 ≤ _; omega
      · show 0 ≤ _; omega
end Go.Proofs.YtogopakmebiomaaDoor

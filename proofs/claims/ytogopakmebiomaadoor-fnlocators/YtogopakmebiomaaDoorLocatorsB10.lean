/-
  Whether all syndromes of a word are noughts: the program's IsWord and its model's, call by call. The program's table of rests must hold its seven numbers where the program's own function is called. Words of a code are far apart: two that have the same syndromes are alike, or unlike at more places than there are syndromes; what EncodeWord tells has noughts for syndromes. Plain mathematics over the functions' answers. No condition. The model's drawing of numbers out of bytes, call by call: each draw returns a number within its bounds, moves its own cursor on and touches nothing else that was there. Each contract says what it asks. Unlike elements: plain mathematics. No call is walked here. Lists of rows put together: what the outer list's cells hold, a copy of such cells, rows behind rows. Each theorem says what it asks. Unlike elements and Cauchy's rows: the program's functions and its model's, call by call. The program's table of rests must hold its seven numbers where the program's own function is called. Cauchy's matrix: the program's function and its model's, at all lists. The program's table of rests must hold its seven numbers where the program's own function is called.
-/
import Derived.Test.YtogopakmebiomaaDoorLocatorsB8
import Derived.Test.YtogopakmebiomaaDoorLocatorsB7
import Derived.Test.YtogopakmebiomaaDoorLocatorsB9
import Derived.Test.YtogopakmebiomaaDoorLocatorsB2
import Derived.Test.YtogopakmebiomaaDoorLocatorsB4
import Derived.Test.YtogopakmebiomaaDoorLocatorsB0
import Derived.Test.YtogopakmebiomaaDoorLocatorsB5
import Derived.Deep.WholeRow
namespace Go.Proofs.YtogopakmebiomaaDoor
open Go.RowKit
namespace Gf

def nought (z : Int) : Bool := decide (z = 0)
theorem isNought_calls (z : Int) (w : World) :
    Calls Tryd.prog 81 #[.int .i64 z] w fun e w' => e = .returned (.bool (nought z)) ∧ w = w' := by
  by_cases h : z = 0
  · have t : (z == 0) = true := by simp [h]
    have e : nought z = true := by simp [nought, h]
    rw [e]
    clear h e
    go_enter Tryd.func81, Tryd.ntmps81
    go_wp2
    go_ret
    exact ⟨by rw [← t]; rfl, rfl⟩
  · have t : (z == 0) = false := by simp [h]
    have e : nought z = false := by simp [nought, h]
    rw [e]
    clear h e
    go_enter Tryd.func81, Tryd.ntmps81
    go_wp2
    go_ret
    exact ⟨by rw [← t]; rfl, rfl⟩
set_option maxRecDepth 100000 in
set_option maxHeartbeats 800000 in
theorem allNought_calls (v : Value) (m : List Int) (w : World) (h : Rd w v m) :
    Calls Tryd.prog 80 #[v, .func (.func 81) #[] #[]] w fun e w' => e = .returned (.bool (m.all nought)) ∧ w = w' := by
  have R := hide h
  obtain ⟨a, cap, rfl, h1, h2, h3⟩ := h
  have hm : m.length ≤ maxLen := by omega
  unfold maxLen at hm
  clear h3 h2 h1
  go_enter Tryd.func80, Tryd.ntmps80
  go_wp2
  go_loop [9] (fun vi => ∃ k : Nat, k ≤ m.length ∧ vi = .int .i64 k ∧ ∀ i, i < k → nought (m.getD i 0) = true) (fun vi => m.length - (intOf vi).toNat)
  case atStart => exact ⟨0, Nat.zero_le _, rfl, fun i hi => by omega⟩
  case round =>
    obtain ⟨k, hk, rfl, hall⟩ := hrel
    have A := hide hall
    clear hall
    by_cases hlt : k < m.length
    · have hlt' : (k : Int) < (m.length : Int) := by omega
      obtain ⟨b, off, u, rfl, hc1, hu⟩ := R.out.row k hlt
      obtain ⟨r, hr⟩ : ∃ r, r = m.getD k 0 := ⟨_, rfl⟩
      rw [← hr] at hu
      subst hu
      have Hr := hide hr
      clear hr
      obtain ⟨q, hq⟩ : ∃ q, q = nought r := ⟨_, rfl⟩
      have Q := hide hq
      have HC : Hid (Calls Tryd.prog 81 #[.int .i64 r] w fun e w' => e = .returned (.bool q) ∧ w = w') := by
        rw [hq]
        exact isNought_calls r w
      cases q with
      | true =>
        clear hq
        go_wp2_with (go_at_call 81; refine HC.out.mono ?_; rintro e w' ⟨rfl, rfl⟩)
        go_round
        case rel =>
          refine ⟨k + 1, by omega, by go_num, fun i hi => ?_⟩
          by_cases e : i = k
          · subst e; rw [← Hr.out, ← Q.out]
          · exact A.out i (by omega)
        case measure => simp [intOf]; omega
      | false =>
        clear hq
        go_wp2_with (go_at_call 81; refine HC.out.mono ?_; rintro e w' ⟨rfl, rfl⟩)
        go_ret
        exact ⟨Gf.ret_bool (all_no hlt (by rw [← Hr.out, ← Q.out])).symm, rfl⟩
    · obtain rfl : k = m.length := by omega
      go_wp2
      go_ret
      exact ⟨Gf.ret_bool (all_yes A.out).symm, rfl⟩

def isB (xs : List Int) (t : Int) : Bool := (synI xs (2 * t.toNat)).all nought
def isWR (xs : List Int) (t : Int) : Bool × Bool := (wdOk xs t && isB xs t, wdOk xs t)

set_option maxRecDepth 100000 in
set_option maxHeartbeats 1600000 in
theorem isWord_calls (v : Value) (xs : List Int) (t : Int) (w : World) (hT : Tab w) (h : Rd w v xs) :
    Calls Tryd.prog 24 #[v, .int .i64 t] w fun e w' => e = .returned (.tuple #[.bool (isWR xs t).1, .bool (isWR xs t).2]) ∧ Below w.heap.size w w' := by
  have T := hide hT
  have R := hide h
  clear hT h
  unfold isWR
  cases hw : wdOk xs t with
  | false =>
    have G := hide (synR_no hw)
    clear hw
    go_enter Tryd.func24, Tryd.ntmps24
    go_wp2_with fail
    refine (syndromesOf_calls _ xs t _ T.out R.out).mono ?_
    rw [G.out]
    rintro e w1 ⟨v1, rfl, ho1, hb1⟩
    have B1 := hide hb1
    clear ho1 hb1
    go_wp2
    go_ret2
    exact ⟨rfl, B1.out⟩
  | true =>
    have G := hide (synR_yes hw)
    obtain ⟨b, hb⟩ : ∃ b, b = isB xs t := ⟨_, rfl⟩
    rw [Bool.true_and]
    rw [← hb]
    have HB := hide hb
    clear hw hb
    go_enter Tryd.func24, Tryd.ntmps24
    go_wp2_with fail
    refine (syndromesOf_calls _ xs t _ T.out R.out).mono ?_
    rw [G.out]
    rintro e w1 ⟨v1, rfl, ho1, hb1⟩
    have R1 := hide ho1.rd
    have B1 := hide hb1
    clear ho1 hb1
    go_wp2_with fail
    refine (allNought_calls _ (synI xs (2 * t.toNat)) _ R1.out).mono ?_
    rw [show (synI xs (2 * t.toNat)).all nought = b from HB.out.symm]
    rintro e w' ⟨rfl, rfl⟩
    go_wp2
    go_ret2
    exact ⟨rfl, B1.out⟩

set_option maxRecDepth 100000 in
set_option maxHeartbeats 1600000 in
theorem l4Is_calls (v : Value) (xs : List Int) (n : Nat) (w : World) (h : Rd w v xs) (he : xs.all elOk = true) (hn : n ≤ 3) :
    Calls Tryd.prog 79 #[v, .int .i64 n] w fun e w' => e = .returned (.bool (isB xs n)) ∧ Below w.heap.size w w' := by
  have R := hide h
  have E := hide he
  obtain ⟨S, hS⟩ : ∃ S, S = synI xs (2 * n) := ⟨_, rfl⟩
  have e0 : isB xs n = S.all nought := by rw [hS]; rfl
  have HSl : S.length = 2 * n := by rw [hS]; exact synI_length _ _
  rw [e0]
  have HS := hide hS
  clear h he hS e0
  have HL := hide HSl
  have hSl : S.length ≤ 6 := by omega
  clear HSl
  go_enter Tryd.func79, Tryd.ntmps79
  go_wp2_with fail
  refine (l4Syndromes_calls _ xs n _ R.out E.out hn).mono ?_
  rw [← HS.out]
  rintro e w1 ⟨v1, rfl, ho1, hb1⟩
  have R1 := hide ho1.rd
  have B1 := hide hb1
  clear ho1 hb1
  obtain ⟨a1, c1, rfl, _, _, _⟩ := R1.out
  go_wp2
  go_loopw [11] (fun vi wr => ∃ k : Nat, k ≤ S.length ∧ vi = .int .i64 k ∧ w1 = wr ∧ ∀ i, i < k → nought (S.getD i 0) = true) (fun vi _ => S.length - (intOf vi).toNat)
  case atStart => exact ⟨0, Nat.zero_le _, rfl, rfl, fun i hi => by omega⟩
  case round =>
    obtain ⟨k, hk, rfl, rfl, hall⟩ := hrel
    have A := hide hall
    clear hall
    by_cases hlt : k < S.length
    · have hlt' : (k : Int) < (S.length : Int) := by omega
      obtain ⟨b, off, u, rfl, hc1, hu⟩ := R1.out.row k hlt
      obtain ⟨r, hr⟩ : ∃ r, r = S.getD k 0 := ⟨_, rfl⟩
      rw [← hr] at hu
      subst hu
      have Hr := hide hr
      clear hr
      by_cases hz : r = 0
      · have tt : (r != 0) = false := by simp [hz]
        have HZ := hide hz
        clear hz
        go_wp2
        go_roundw
        case rel =>
          refine ⟨k + 1, by omega, by go_num, by first | trivial | rfl, fun i hi => ?_⟩
          by_cases e : i = k
          · subst e; rw [← Hr.out, HZ.out]; rfl
          · exact A.out i (by omega)
        case measure => simp [intOf]; omega
      · have tt : (r != 0) = true := by simp [hz]
        have HZ := hide hz
        clear hz
        go_wp2
        go_ret
        exact ⟨Gf.ret_bool (all_no hlt (by rw [← Hr.out]; simp [nought, HZ.out])).symm, B1.out⟩
    · obtain rfl : k = S.length := by omega
      go_wp2
      go_ret
      exact ⟨Gf.ret_bool (all_yes A.out).symm, B1.out⟩

set_option maxRecDepth 100000 in
set_option maxHeartbeats 1600000 in
theorem sIsWord_calls (v : Value) (xs : List Int) (t : Int) (w : World) (h : Rd w v xs) :
    Calls Tryd.prog 23 #[v, .int .i64 t] w fun e w' => e = .returned (.tuple #[.bool (isWR xs t).1, .bool (isWR xs t).2]) ∧ Below w.heap.size w w' := by
  have R := hide h
  clear h
  unfold isWR
  cases hw : wdOk xs t with
  | false =>
    have G := hide hw
    clear hw
    go_enter Tryd.func23, Tryd.ntmps23
    go_wp2_with fail
    refine (l4Word_calls _ xs t _ R.out).mono ?_
    rw [G.out]
    rintro e w' ⟨rfl, rfl⟩
    go_wp2
    go_ret2
    exact ⟨rfl, Below.refl _ _⟩
  | true =>
    obtain ⟨h1, h2, h3, h4⟩ := wdOk_yes hw
    obtain ⟨q1, q3⟩ := wOk_iff.1 h1
    obtain ⟨n, rfl⟩ := Int.eq_ofNat_of_zero_le (a := t) (by omega)
    have G := hide hw
    have E := hide h4
    obtain ⟨b, hb⟩ : ∃ b, b = isB xs n := ⟨_, rfl⟩
    rw [Bool.true_and]
    rw [← hb]
    have HB := hide hb
    clear hw hb h1 h2 h4
    go_enter Tryd.func23, Tryd.ntmps23
    go_wp2_with fail
    refine (l4Word_calls _ xs _ _ R.out).mono ?_
    rw [G.out]
    rintro e w' ⟨rfl, rfl⟩
    go_wp2_with fail
    refine (l4Is_calls _ xs n _ R.out E.out (by omega)).mono ?_
    rw [← HB.out]
    rintro e w1 ⟨rfl, hb1⟩
    have B1 := hide hb1
    clear hb1
    go_wp2
    go_ret2
    exact ⟨rfl, B1.out⟩
end Gf
end Go.Proofs.YtogopakmebiomaaDoor

namespace Go.Proofs.YtogopakmebiomaaDoor
open Go.RowKit
open Gf (ci nat AllLt p2 vs px sp fn ev evn pow)

/-- A number of a list, as a natural one. -/
def at_ (xs : List Int) (i : Nat) : Nat := fn (nat xs) i
theorem at_eq (xs : List Int) (i : Nat) : at_ xs i = (xs.getD i 0).toNat := by
  unfold at_ Gf.fn Gf.nat
  simp only [List.getD_eq_getElem?_getD, List.getElem?_map]
  cases xs[i]? <;> rfl
theorem at_lt {xs : List Int} (h : xs.all Gf.elOk = true) (i : Nat) : at_ xs i < 256 := Gf.nat_lt h i
theorem ev_at {xs : List Int} (h : xs.all Gf.elOk = true) {x : Nat} (hx : x < 256) (L : Nat) (hL : xs.length ≤ L) : ev x xs = sp (at_ xs) x L := by
  have e := Gf.ci_nat h
  have : ev x xs = evn x (nat xs) := by
    conv => lhs; rw [← e]
    exact Gf.ev_ci x (nat xs)
  rw [this]
  exact Gf.evn_fun hx (Gf.nat_lt h) L (by rw [Gf.nat_length]; exact hL)
namespace Gf
theorem sp_lt {c : Nat → Nat} {x : Nat} (hc : ∀ i, c i < 256) (n : Nat) : sp c x n < 256 := by
  induction n with
  | zero => show 0 < 256; omega
  | succ n ih => exact xor_lt ih (mul_lt (hc n))
theorem sp_xor {a b : Nat → Nat} {x : Nat} (ha : ∀ i, a i < 256) (hb : ∀ i, b i < 256) (n : Nat) : sp (fun i => a i ^^^ b i) x n = sp a x n ^^^ sp b x n := by
  induction n with
  | zero => show 0 = 0 ^^^ 0; rfl
  | succ n ih => rw [sp, sp, sp, ih, mul_xor_a _ _ _ (ha n) (hb n), xor4]
theorem px_swap {k i : Nat} (hk : k < 64) (hi : i < 64) : px (pow 2 k) i = px (p2 i) k := by
  have e1 : pow 2 k = px 2 k := p2_px hk
  rw [e1, p2_px hi, px_px (by omega), px_px (by omega), Nat.mul_comm]
end Gf
/-- By how much two lists are unlike at a place. -/
def dif (e x : List Int) (i : Nat) : Nat := at_ e i ^^^ at_ x i
theorem dif_lt {e x : List Int} (he : e.all Gf.elOk = true) (hx : x.all Gf.elOk = true) (i : Nat) : dif e x i < 256 := Gf.xor_lt (at_lt he i) (at_lt hx i)
theorem at_inj {e x : List Int} (he : e.all Gf.elOk = true) (hx : x.all Gf.elOk = true) {i : Nat} (h1 : i < e.length) (h2 : i < x.length) : at_ e i = at_ x i ↔ e.getD i 0 = x.getD i 0 := by
  rw [at_eq, at_eq]
  have a := Gf.all_get he i h1
  have b := Gf.all_get hx i h2
  omega
/-- The sum over all places is the one over those where two lists are unlike. -/
theorem dif_vs {e x : List Int} (he : e.all Gf.elOk = true) (hx : x.all Gf.elOk = true) (hl : e.length = x.length) {k : Nat} (hk : k < 6) : ∀ L, L ≤ e.length → L ≤ 24 →
    sp (dif e x) (pow 2 k) L = vs (fun j => dif e x ((unpN e x L).getD j 0).toNat) (fun j => p2 ((unpN e x L).getD j 0).toNat) k (unpN e x L).length
  | 0, _, _ => rfl
  | L + 1, h1, h2 => by
    have ih := dif_vs he hx hl hk L (by omega) (by omega)
    rw [Gf.sp, ih, Gf.px_swap (by omega) (by omega)]
    by_cases h : e.getD L 0 = x.getD L 0
    · rw [unpN_same rfl rfl h]
      have e0 : dif e x L = 0 := by
        unfold dif
        rw [(at_inj he hx (by omega) (by omega)).2 h, Nat.xor_self]
      rw [e0, Gf.zero_mul (Gf.px_lt _ _), Nat.xor_zero]
    · rw [unpN_other rfl rfl h]
      have hla : (unpN e x L ++ [(L : Int)]).length = (unpN e x L).length + 1 := by simp
      have ha : ∀ i, i < (unpN e x L).length → (unpN e x L ++ [(L : Int)]).getD i 0 = (unpN e x L).getD i 0 := fun i hi => by
        rw [List.getD_eq_getElem?_getD, List.getElem?_append_left hi, List.getD_eq_getElem?_getD]
      have hb : (unpN e x L ++ [(L : Int)]).getD (unpN e x L).length 0 = (L : Int) := by
        rw [List.getD_eq_getElem?_getD, List.getElem?_append_right (Nat.le_refl _), Nat.sub_self]; rfl
      rw [hla, Gf.vs, hb, Int.toNat_natCast]
      congr 1
      exact Gf.vs_congr _ (fun i hi => by rw [ha i hi]; exact ⟨rfl, rfl⟩)
theorem unpN_ok (e x : List Int) : ∀ L, ∀ i, i < (unpN e x L).length → ∃ p : Nat, (unpN e x L).getD i 0 = (p : Int) ∧ p < L ∧ e.getD p 0 ≠ x.getD p 0 ∧ ∀ j, j < i → (unpN e x L).getD j 0 < (p : Int)
  | 0, i, hi => by simp [unpN] at hi
  | L + 1, i, hi => by
    by_cases h : e.getD L 0 = x.getD L 0
    · rw [unpN_same rfl rfl h] at hi ⊢
      obtain ⟨p, a, b, c, d⟩ := unpN_ok e x L i hi
      exact ⟨p, a, by omega, c, d⟩
    · rw [unpN_other rfl rfl h] at hi ⊢
      have hla : (unpN e x L ++ [(L : Int)]).length = (unpN e x L).length + 1 := by simp
      have ha : ∀ i, i < (unpN e x L).length → (unpN e x L ++ [(L : Int)]).getD i 0 = (unpN e x L).getD i 0 := fun i hi => by
        rw [List.getD_eq_getElem?_getD, List.getElem?_append_left hi, List.getD_eq_getElem?_getD]
      have hb : (unpN e x L ++ [(L : Int)]).getD (unpN e x L).length 0 = (L : Int) := by
        rw [List.getD_eq_getElem?_getD, List.getElem?_append_right (Nat.le_refl _), Nat.sub_self]; rfl
      rw [hla] at hi
      by_cases he : i = (unpN e x L).length
      · subst he
        refine ⟨L, hb, by omega, h, fun j hj => ?_⟩
        rw [ha j hj]
        obtain ⟨p, a, b, _⟩ := unpN_ok e x L j hj
        omega
      · obtain ⟨p, a, b, c, d⟩ := unpN_ok e x L i (by omega)
        refine ⟨p, by rw [ha i (by omega)]; exact a, by omega, c, fun j hj => ?_⟩
        rw [ha j (by omega)]
        exact d j hj
theorem unpN_mem (e x : List Int) : ∀ L p, p < L → e.getD p 0 ≠ x.getD p 0 → 0 < (unpN e x L).length
  | 0, p, h, _ => by omega
  | L + 1, p, h, hne => by
    by_cases hL : e.getD L 0 = x.getD L 0
    · rw [unpN_same rfl rfl hL]
      have hpL : p ≠ L := fun hp => by subst hp; exact hne hL
      exact unpN_mem e x L p (by omega) hne
    · rw [unpN_other rfl rfl hL]
      simp
/-- Where as many values are alike as there are unlike places, or more, there are none. -/
theorem far_apart {e x : List Int} (he : e.all Gf.elOk = true) (hx : x.all Gf.elOk = true) (hl : e.length = x.length) (h24 : e.length ≤ 24) {m : Nat} (hm : m ≤ 6)
    (hev : ∀ k, k < m → ev (pow 2 k) e = ev (pow 2 k) x) (hfew : (unpN e x e.length).length ≤ m) : (unpN e x e.length).length = 0 := by
  obtain ⟨P, hP⟩ : ∃ P, P = unpN e x e.length := ⟨_, rfl⟩
  have hok := unpN_ok e x e.length
  rw [← hP] at hfew hok ⊢
  by_cases h0 : P.length = 0
  · exact h0
  exfalso
  have hz := Gf.vand_zero P.length (fun j => dif e x (P.getD j 0).toNat) (fun j => p2 (P.getD j 0).toNat) (fun j => dif_lt he hx _) (fun j => Gf.p2_lt _) ?_ ?_ 0 (by omega)
  · obtain ⟨p, a, b, c, _⟩ := hok 0 (by omega)
    have hz' : dif e x (P.getD 0 0).toNat = 0 := hz
    rw [a, Int.toNat_natCast] at hz'
    exact c ((at_inj he hx b (by omega)).1 (Gf.xor_zero_eq hz'))
  · intro i j hi hj hne hh
    obtain ⟨p, a, b, _, d⟩ := hok i hi
    obtain ⟨q, a2, b2, _, d2⟩ := hok j hj
    have hh' : p2 (P.getD i 0).toNat = p2 (P.getD j 0).toNat := hh
    rw [a, a2, Int.toNat_natCast, Int.toNat_natCast] at hh'
    have := Gf.p2_inj (by omega) (by omega) hh'
    subst this
    rcases Nat.lt_or_gt_of_ne hne with h | h
    · have := d2 i h; omega
    · have := d j h; omega
  · intro k hk
    have h1 := dif_vs he hx hl (k := k) (by omega) e.length (Nat.le_refl _) h24
    rw [← hP] at h1
    have h2 : sp (dif e x) (pow 2 k) e.length = sp (at_ e) (pow 2 k) e.length ^^^ sp (at_ x) (pow 2 k) e.length := Gf.sp_xor (at_lt he) (at_lt hx) _
    rw [← ev_at he (Gf.pow_lt _ _) _ (Nat.le_refl _), ← ev_at hx (Gf.pow_lt _ _) _ (by omega), hev k (by omega), Nat.xor_self] at h2
    rw [← h1, h2]

theorem gen_root_tab : Gf.allB 4 (fun n => Gf.allB 6 (fun k => Nat.ble (2 * n) k || ev (pow 2 k) (Gf.genI (2 * n)) == 0)) = true := by decide +kernel
theorem gen_root {n k : Nat} (hn : n ≤ 3) (hk : k < 2 * n) : ev (pow 2 k) (Gf.genI (2 * n)) = 0 := by
  have := Gf.allB_of (Gf.allB_of gen_root_tab n (by omega)) k (by omega)
  simp at this
  rcases this with h | h
  · omega
  · exact h
theorem getD_spl {raw r : List Int} (i : Nat) : (spl raw 0 r).getD i 0 = if i < r.length then r.getD i 0 else raw.getD i 0 := by
  unfold spl
  rw [List.take_zero, List.nil_append, Nat.zero_add]
  simp only [List.getD_eq_getElem?_getD]
  by_cases h : i < r.length
  · rw [if_pos h, List.getElem?_append_left h]
  · rw [if_neg h, List.getElem?_append_right (by omega), List.getElem?_drop, show r.length + (i - r.length) = i from by omega]
theorem word_syn {xs : List Int} {n k : Nat} (hn : n ≤ 3) (he : xs.all Gf.elOk = true) (hl : xs.length + 2 * n ≤ 24) (hk : k < 2 * n) (hwe : (Gf.wordW xs n).all Gf.elOk = true) : ev (pow 2 k) (Gf.wordW xs n) = 0 := by
  have hp := Gf.pow_lt 2 k
  have hrl := Gf.rest_len (n := n) hn he (by omega)
  have hre : (Gf.restW xs n).all Gf.elOk = true := by
    rw [List.all_eq_true]
    intro x hx
    exact Gf.elOk_iff.2 (Gf.goodP_mem (Gf.rest_good hn he (by omega)) x hx)
  have hra := Gf.rawW_all n he
  have hral := Gf.rawW_length xs n
  have hf := (Gf.div_facts (Gf.div_ok (n := n) hn he (by omega))).2.2.2.2.2 (pow 2 k) hp
  rw [gen_root hn hk, Gf.zero_mul (Gf.ev_lt (Gf.goodP_mem (Gf.div_facts (Gf.div_ok (n := n) hn he (by omega))).2.2.1)), Nat.zero_xor, Gf.ev_cutL hp hra] at hf
  have hf' : ev (pow 2 k) (Gf.restW xs n) = ev (pow 2 k) (Gf.rawW xs n) := hf
  have key : ∀ i, at_ (Gf.wordW xs n) i = at_ (Gf.rawW xs n) i ^^^ at_ (Gf.restW xs n) i := by
    intro i
    rw [at_eq, at_eq, at_eq]
    unfold Gf.wordW
    rw [getD_spl i]
    by_cases h : i < (Gf.restW xs n).length
    · rw [if_pos h]
      have : (Gf.rawW xs n).getD i 0 = 0 := by
        unfold Gf.rawW
        rw [List.getD_eq_getElem?_getD, List.getElem?_append_left (by rw [List.length_replicate]; omega), List.getElem?_replicate, if_pos (by omega)]
        rfl
      rw [this]
      exact (Nat.zero_xor _).symm
    · rw [if_neg h]
      have : (Gf.restW xs n).getD i 0 = 0 := by
        rw [List.getD_eq_getElem?_getD, List.getElem?_eq_none (by omega)]; rfl
      rw [this]
      exact (Nat.xor_zero _).symm
  have hwl := Gf.wordW_length (n := n) hn he (by omega)
  rw [ev_at hwe hp 24 (by omega), Gf.sp_congr 24 (fun i _ => key i), Gf.sp_xor (at_lt hra) (at_lt hre), ← ev_at hra hp 24 (by omega), ← ev_at hre hp 24 (by omega), hf', Nat.xor_self]
theorem isB_of {xs : List Int} {n : Nat} (h : ∀ k, k < 2 * n → ev (pow 2 k) xs = 0) : Gf.isB xs n = true := by
  unfold Gf.isB
  rw [Int.toNat_natCast, List.all_eq_true]
  intro z hz
  unfold Gf.synI at hz
  obtain ⟨k, hk, rfl⟩ := List.mem_map.1 hz
  rw [h k (List.mem_range.1 hk)]
  rfl
theorem isB_at {xs : List Int} {n k : Nat} (h : Gf.isB xs n = true) (hk : k < 2 * n) : ev (pow 2 k) xs = 0 := by
  unfold Gf.isB at h
  rw [Int.toNat_natCast] at h
  have := all_at (d := 0) h k (by rw [Gf.synI_length]; exact hk)
  rw [Gf.synI_get _ _ _ hk] at this
  simp [Gf.nought] at this
  exact this
end Go.Proofs.YtogopakmebiomaaDoor

namespace Go.Proofs.YtogopakmebiomaaDoor
open Go.RowKit

/-- The value v is a slice of bytes that can be read, in this world. -/
def RdB (w : World) (v : Value) : Prop :=
  ∃ a cap, ∃ zs : List Nat, v = .slice a zs.length cap ∧ zs.length ≤ 281474976710656 ∧ Gf.AllLt zs ∧
    (zs = [] ∨ ∃ b off, a = some ⟨b, off, none⟩ ∧ b < w.heap.size ∧ ∀ i, i < zs.length → w.cell? ⟨b, off + i, none⟩ = some (.int .u8 (zs.getD i 0 : Nat)))
theorem RdB.below {w w' : World} {v : Value} (h : RdB w v) (hb : Below w.heap.size w w') : RdB w' v := by
  obtain ⟨a, cap, zs, rfl, h1, h2, h3⟩ := h
  refine ⟨a, cap, zs, rfl, h1, h2, ?_⟩
  rcases h3 with h3 | ⟨b, off, rfl, hlt, hc⟩
  · exact .inl h3
  · exact .inr ⟨b, off, rfl, Nat.lt_of_lt_of_le hlt hb.size, fun i hi => (hb.cell (p := ⟨b, off + i, none⟩) hlt).trans (hc i hi)⟩
/-- The cursor in block g: over the bytes cv, not further than k. -/
structure CurS (w : World) (g : Nat) (cv : Value) (k : Nat) : Prop where
  at_ : ∃ (n : Nat) (s : Int), n ≤ k ∧ w.heap[g]? = some (.cells #[cv, .int .i64 n, .int .u64 s] 89 (0, 0))
  code : ∀ w', w.grownBy w' (some g) → RdB w' cv
theorem grown_trans {w w' w'' : World} {row : Option Nat} (h : w.grownBy w' row) (k : w'.grownBy w'' row) : w.grownBy w'' row := Gf.grownBy_trans h k
theorem CurS.mono {w : World} {g k k' : Nat} {cv : Value} (h : CurS w g cv k) (hk : k ≤ k') : CurS w g cv k' := by
  obtain ⟨n, s, hn, hh⟩ := h.at_
  exact ⟨⟨n, s, by omega, hh⟩, h.code⟩
theorem CurS.alloc {w : World} {g k : Nat} {cv : Value} (h : CurS w g cv k) (o : Obj) : CurS (w.alloc o) g cv k := by
  obtain ⟨n, s, hn, hh⟩ := h.at_
  have hlt : g < w.heap.size := (Array.getElem?_eq_some_iff.1 hh).1
  exact ⟨⟨n, s, hn, (Below.heap_alloc w o g hlt).trans hh⟩, fun w' hg => h.code w' (grown_trans (World.grownBy_alloc w o _) hg)⟩
theorem i64_small {x : Int} (h0 : 0 ≤ x) (h : x < 256) : IntKind.i64.wrap x = x := by rw [Gf.wrap_i64]; omega
theorem u64_and255 (x : Int) (h0 : 0 ≤ x) (h : x < 18446744073709551616) : bits .and .u64 x 255 = x % 256 := by
  obtain ⟨X, rfl⟩ := Int.eq_ofNat_of_zero_le h0
  show IntKind.u64.wrap ((BitVec.ofInt 64 (X : Int) &&& BitVec.ofInt 64 ((255 : Nat) : Int)).toNat : Int) = _
  have e : X &&& 255 = X % 256 := Nat.and_two_pow_sub_one_eq_mod X 8
  rw [BitVec.toNat_and, Gf.ofInt_i64, Gf.ofInt_i64, Nat.mod_eq_of_lt (by omega), Nat.mod_eq_of_lt (by omega), e, IntKind.wrap_u64]
  omega

theorem cur_moved {w : World} {g n k m m' : Nat} {cv : Value} {s s' : Int} (hh : w.heap[g]? = some (.cells #[cv, .int .i64 n, .int .u64 s] 89 (0, 0))) (hn : n ≤ k) (code : ∀ w', w.grownBy w' (some g) → RdB w' cv) :
    CurS ((((w.drewN m).setCell ⟨g, 1, none⟩ (.int .i64 ((n : Int) + 1))).setCell ⟨g, 2, none⟩ (.int .u64 s')).drewN m') g cv (k + 1) ∧
      w.grownBy ((((w.drewN m).setCell ⟨g, 1, none⟩ (.int .i64 ((n : Int) + 1))).setCell ⟨g, 2, none⟩ (.int .u64 s')).drewN m') (some g) := by
  have h1 : ((w.drewN m).setCell ⟨g, 1, none⟩ (.int .i64 ((n : Int) + 1))).heap[g]? = some (.cells #[cv, .int .i64 ((n : Int) + 1), .int .u64 s] 89 (0, 0)) :=
    heap_setCell_same (w.drewN m) g 1 _ _ _ hh
  have h2 : (((w.drewN m).setCell ⟨g, 1, none⟩ (.int .i64 ((n : Int) + 1))).setCell ⟨g, 2, none⟩ (.int .u64 s')).heap[g]? = some (.cells #[cv, .int .i64 ((n : Int) + 1), .int .u64 s'] 89 (0, 0)) :=
    heap_setCell_same _ g 2 _ _ _ h1
  have hg : w.grownBy ((((w.drewN m).setCell ⟨g, 1, none⟩ (.int .i64 ((n : Int) + 1))).setCell ⟨g, 2, none⟩ (.int .u64 s')).drewN m') (some g) := by
    refine ⟨rfl, rfl, rfl, by simp [World.drewN], fun j _ hj => ?_⟩
    have hne : j ≠ g := fun e => hj (by rw [e])
    exact (Below.heap_setCell _ ⟨g, 2, none⟩ _ j hne).trans (Below.heap_setCell (w.drewN m) ⟨g, 1, none⟩ _ j hne)
  exact ⟨⟨⟨n + 1, s', by omega, by simpa using h2⟩, fun w' hw => code w' (grown_trans hg hw)⟩, hg⟩
theorem seed_bd (x : Int) : ∃ r : Nat, r < 256 ∧ wrap64 (bits .and .u64 (IntKind.u64.wrap x / 1099511627776) 255) = (r : Int) := by
  have h0 : 0 ≤ IntKind.u64.wrap x := wrap_u64_nonneg x
  have h1 : IntKind.u64.wrap x < 18446744073709551616 := by rw [IntKind.wrap_u64]; omega
  rw [u64_and255 _ (by omega) (by omega)]
  refine ⟨(IntKind.u64.wrap x / 1099511627776 % 256).toNat, by omega, ?_⟩
  unfold wrap64
  omega

set_option maxRecDepth 100000 in
set_option maxHeartbeats 1600000 in
theorem next_calls (g : Nat) (cv : Value) (k : Nat) (w : World) (h : CurS w g cv k) (hk : k ≤ 1073741824) :
    Calls Tryd.prog 135 #[.pointer (some ⟨g, 0, none⟩)] w fun e w' => ∃ r : Nat, r < 256 ∧ e = .returned (.int .i64 r) ∧ CurS w' g cv (k + 1) ∧ w.grownBy w' (some g) := by
  obtain ⟨n, s, hn, hh⟩ := h.at_
  have C := hide h.code
  have hR := h.code w (World.grownBy.refl _ _)
  obtain ⟨a, cap, zs, rfl, hz1, hz2, h3⟩ := hR
  have hc0 : w.cell? ⟨g, 0, none⟩ = some (.slice a zs.length cap) := by rw [cell_of_row w g 0 _ _ _ hh]; rfl
  have hc1 : w.cell? ⟨g, 1, none⟩ = some (.int .i64 n) := by rw [cell_of_row w g 1 _ _ _ hh]; rfl
  have hc2 : w.cell? ⟨g, 2, none⟩ = some (.int .u64 s) := by rw [cell_of_row w g 2 _ _ _ hh]; rfl
  have hf1 : w.frozen? ⟨g, 1, none⟩ = false := frozen_of_row w g 1 _ _ hh
  have hf2 : w.frozen? ⟨g, 2, none⟩ = false := frozen_of_row w g 2 _ _ hh
  have HH := hide hh
  clear hh h
  by_cases hlt : n < zs.length
  · rcases h3 with h3 | ⟨b, off, rfl, hbs, hcz⟩
    · subst h3; simp at hlt
    have hz := hcz n hlt
    clear hcz
    obtain ⟨z, hzz⟩ : ∃ z, z = zs.getD n 0 := ⟨_, rfl⟩
    have hz256 : z < 256 := by rw [hzz]; exact hz2 n
    rw [← hzz] at hz
    clear hzz
    have t1 : (n : Int) < (zs.length : Int) := by omega
    have t2 : (n : Int) + 1 ≤ (zs.length : Int) := by omega
    go_enter Tryd.func135, Tryd.ntmps135
    go_wp2
    go_quiet (fail)
    go_wp2
    go_quiet (fail)
    go_wp2
    go_quiet (fail)
    go_wp2
    go_ret
    exact ⟨z, hz256, rfl, cur_moved HH.out hn C.out⟩
  · clear h3
    have t1 : ¬ (n : Int) < (zs.length : Int) := by omega
    have t2 : ¬ (n : Int) + 1 ≤ (zs.length : Int) := by omega
    go_enter Tryd.func135, Tryd.ntmps135
    go_wp2
    go_quiet (fail)
    go_wp2
    go_quiet (fail)
    go_wp2
    go_ret
    obtain ⟨r, hr, e⟩ := seed_bd (IntKind.u64.wrap (IntKind.u64.wrap (s * 6364136223846793005)) + 1442695040888963407)
    exact ⟨r, hr, Gf.ret_int e, cur_moved HH.out hn C.out⟩

set_option maxRecDepth 100000 in
set_option maxHeartbeats 800000 in
theorem pick_calls (g : Nat) (cv : Value) (k n : Nat) (w : World) (h : CurS w g cv k) (hk : k ≤ 1000000000) (hn0 : 1 ≤ n) (hn : n ≤ 65536) :
    Calls Tryd.prog 93 #[.pointer (some ⟨g, 0, none⟩), .int .i64 n] w fun e w' => ∃ r : Nat, r < n ∧ e = .returned (.int .i64 r) ∧ CurS w' g cv (k + 2) ∧ w.grownBy w' (some g) := by
  have H := hide h
  clear h
  by_cases h1 : n ≤ 1
  · have t : (n : Int) ≤ 1 := by omega
    go_enter Tryd.func93, Tryd.ntmps93
    go_wp2
    go_ret
    exact ⟨0, by omega, rfl, H.out.mono (by omega), World.grownBy.refl _ _⟩
  · have t : ¬ (n : Int) ≤ 1 := by omega
    by_cases h2 : 200 < n
    · have t2 : (200 : Int) < (n : Int) := by omega
      go_enter Tryd.func93, Tryd.ntmps93
      go_wp2_with fail
      refine (next_calls g cv k _ H.out (by omega)).mono ?_
      rintro e w1 ⟨r1, hr1, rfl, hc1, hg1⟩
      have C1 := hide hc1
      have G1 := hide hg1
      clear hc1 hg1 H
      go_wp2_with fail
      refine (next_calls g cv (k + 1) _ C1.out (by omega)).mono ?_
      rintro e w2 ⟨r2, hr2, rfl, hc2, hg2⟩
      have C2 := hide hc2
      have G2 := hide (grown_trans G1.out hg2)
      clear hc2 hg2
      have hnz : ((n : Int) == 0) = false := by simp; omega
      have hnz' : (n : Int) ≠ 0 := by omega
      go_wp2
      go_ret
      exact ⟨(r1 * 256 + r2) % n, Nat.mod_lt _ (by omega), Gf.ret_int (by simp), C2.out, G2.out⟩
    · have t2 : ¬ (200 : Int) < (n : Int) := by omega
      go_enter Tryd.func93, Tryd.ntmps93
      go_wp2_with fail
      refine (next_calls g cv k _ H.out (by omega)).mono ?_
      rintro e w1 ⟨r1, hr1, rfl, hc1, hg1⟩
      have C1 := hide hc1
      have G1 := hide hg1
      clear hc1 hg1 H
      have hnz : ((n : Int) == 0) = false := by simp; omega
      have hnz' : (n : Int) ≠ 0 := by omega
      go_wp2
      go_ret
      exact ⟨r1 % n, Nat.mod_lt _ (by omega), Gf.ret_int (by simp), C1.out.mono (by omega), G1.out⟩

set_option maxRecDepth 100000 in
theorem one_calls (g : Nat) (cv : Value) (k n : Nat) (w : World) (h : CurS w g cv k) (hk : k ≤ 1000000000) (hn0 : 1 ≤ n) (hn : n ≤ 65536) :
    Calls Tryd.prog 94 #[.pointer (some ⟨g, 0, none⟩), .int .i64 n] w fun e w' => ∃ b : Bool, e = .returned (.bool b) ∧ CurS w' g cv (k + 2) ∧ w.grownBy w' (some g) := by
  have H := hide h
  clear h
  go_enter Tryd.func94, Tryd.ntmps94
  go_wp2_with fail
  refine (pick_calls g cv k n _ H.out hk hn0 hn).mono ?_
  rintro e w1 ⟨r1, hr1, rfl, hc1, hg1⟩
  have C1 := hide hc1
  have G1 := hide hg1
  clear hc1 hg1 H
  go_wp2
  go_ret
  exact ⟨_, rfl, C1.out, G1.out⟩

set_option maxRecDepth 100000 in
set_option maxHeartbeats 800000 in
theorem among_calls (g : Nat) (cv v : Value) (xs : List Int) (k : Nat) (w : World) (h : CurS w g cv k) (hk : k ≤ 1000000000) (hr : ∀ w', w.grownBy w' (some g) → Rd w' v xs) (h0 : 1 ≤ xs.length) (hl : xs.length ≤ 200) :
    Calls Tryd.prog 136 #[.pointer (some ⟨g, 0, none⟩), v] w fun e w' => ∃ z : Int, e = .returned (.int .i64 z) ∧ CurS w' g cv (k + 2) ∧ w.grownBy w' (some g) := by
  have H := hide h
  have R := hide hr
  have hr0 := hr w (World.grownBy.refl _ _)
  obtain ⟨a, cap, rfl, _, _, _⟩ := hr0
  clear h hr
  go_enter Tryd.func136, Tryd.ntmps136
  go_wp2_with fail
  refine (pick_calls g cv k xs.length _ H.out hk h0 (by omega)).mono ?_
  rintro e w1 ⟨r1, hr1, rfl, hc1, hg1⟩
  have C1 := hide hc1
  have G1 := hide hg1
  obtain ⟨a', cap', hv, _, _, h3⟩ := R.out w1 hg1
  have hv2 : a' = a := by simp at hv; exact hv.1.symm
  subst hv2
  clear hv hc1 hg1 H
  rcases h3 with h3 | ⟨b, off, rfl, hbs, hc⟩
  · subst h3; simp at h0
  have hcell := hc r1 hr1
  obtain ⟨z, hz⟩ : ∃ z, z = xs.getD r1 0 := ⟨_, rfl⟩
  rw [← hz] at hcell
  clear hz hc
  have t : (r1 : Int) < (xs.length : Int) := by omega
  go_wp2
  go_ret
  exact ⟨z, rfl, C1.out, G1.out⟩

theorem rd_build {w : World} {l : List Int} {g : Nat} (hg : g < w.heap.size) (hm : l.length ≤ maxLen) : ∀ w', (w.alloc (.cells (l.map (Value.int .i64)).toArray 3)).grownBy w' (some g) → Rd w' (.slice (some ⟨w.heap.size, 0, none⟩) l.length l.length) l := by
  intro w' hg'
  have hO : Own (w.alloc (.cells (l.map (Value.int .i64)).toArray 3)) w.heap.size (.slice (some ⟨w.heap.size, 0, none⟩) l.length l.length) l := by
    have := World.ownsRow_lit (base := w.heap.size) (e := 3) (size := 1) w (l.map (Value.int .i64)).toArray l.length (Nat.le_refl _) hm (by simp)
    simpa using this
  exact Own.rd (World.ownsRow.kept hO hg' (.inr (by simp [Value.ownBlock]; omega)))

end Go.Proofs.YtogopakmebiomaaDoor

namespace Go.Proofs.YtogopakmebiomaaDoor
open Go.RowKit

/-- All are elements, and no two are alike. -/
def unl (l : List Int) : Bool := decide (l.Pairwise (· ≠ ·)) && l.all Gf.elOk
theorem unl_nil : unl [] = true := by simp [unl]
theorem unl_snoc (p : List Int) (a : Int) : unl (p ++ [a]) = (unl p && (Gf.elOk a && !p.contains a)) := by
  unfold unl
  rw [List.all_append]
  have e : decide ((p ++ [a]).Pairwise (· ≠ ·)) = (decide (p.Pairwise (· ≠ ·)) && !p.contains a) := by
    rw [Bool.eq_iff_iff]
    simp only [decide_eq_true_eq, Bool.and_eq_true, List.pairwise_append, Bool.not_eq_true', List.contains_eq_mem, decide_eq_false_iff_not]
    constructor
    · rintro ⟨h1, _, h3⟩
      exact ⟨h1, fun hm => h3 a hm a (by simp) rfl⟩
    · rintro ⟨h1, h2⟩
      refine ⟨h1, by simp, fun x hx y hy => ?_⟩
      simp at hy
      subst hy
      intro e
      subst e
      exact h2 hx
  rw [e]
  simp only [List.all_cons, List.all_nil, Bool.and_true]
  cases decide (p.Pairwise (· ≠ ·)) <;> cases p.contains a <;> cases p.all Gf.elOk <;> cases Gf.elOk a <;> rfl
theorem unl_app {p : List Int} (h : unl p = false) (r : List Int) : unl (p ++ r) = false := by
  cases e : unl (p ++ r) with
  | false => rfl
  | true =>
    unfold unl at e h
    simp only [Bool.and_eq_true, decide_eq_true_eq, List.pairwise_append, List.all_append] at e
    rw [decide_eq_true e.1.1, e.2.1] at h
    cases h
theorem unl_els {p : List Int} (h : unl p = true) : p.all Gf.elOk = true := by
  unfold unl at h
  simp only [Bool.and_eq_true] at h
  exact h.2
theorem take_snoc {α : Type} (l : List α) (d : α) (k : Nat) (h : k < l.length) : l.take (k + 1) = l.take k ++ [l.getD k d] := by
  rw [List.take_succ_eq_append_getElem h, List.getD_eq_getElem?_getD, List.getElem?_eq_getElem h, Option.getD_some]
theorem elOk_facts {a : Int} (h : Gf.elOk a = true) : 0 ≤ a ∧ a < 256 := by
  simp only [Gf.elOk, decide_eq_true_eq] at h
  omega
/-- Which of the 256 have been seen. -/
def seenL (p : List Int) : List Value := (List.range 256).map fun a : Nat => Value.bool (p.contains (a : Int))
theorem seenL_length (p : List Int) : (seenL p).length = 256 := by simp [seenL]
theorem seenL_nil : seenL [] = List.replicate 256 (Value.bool false) := by
  rw [List.eq_replicate_iff]
  simp [seenL]
theorem seenL_get (p : List Int) (a : Nat) (h : a < 256) : (seenL p)[a]? = some (.bool (p.contains (a : Int))) := by
  simp [seenL, h]
theorem seenL_set (p : List Int) (a : Nat) (h : a < 256) : (seenL p).set a (.bool true) = seenL (p ++ [(a : Int)]) := by
  unfold seenL
  apply List.ext_getElem?
  intro i
  rw [List.getElem?_set]
  by_cases hi : i < 256
  · by_cases e : a = i
    · subst e; simp [hi]
    · rw [if_neg e]
      simp only [List.getElem?_map, List.getElem?_range hi, Option.map_some, Option.some.injEq, Value.bool.injEq, List.contains_eq_mem, List.mem_append, List.mem_singleton]
      have : ¬ ((i : Int) = (a : Int)) := by omega
      simp [this]
  · have : ¬ (a = i) := by omega
    rw [if_neg this]
    simp [hi]
/-- Cauchy's rows. -/
def cauRow (a : Int) (ys : List Int) : List Int := ys.map fun b => ((Gf.inv (a.toNat ^^^ b.toNat) : Nat) : Int)
def cauM (xs ys : List Int) : List (List Int) := xs.map fun a => cauRow a ys
end Go.Proofs.YtogopakmebiomaaDoor

namespace Go.Proofs.YtogopakmebiomaaDoor
open Go.RowKit

/-- The value v is a list whose cells hold these values, each of one cell. -/
def Vals (w : World) (v : Value) (us : List Value) : Prop :=
  ∃ a cap, v = .slice a us.length cap ∧ us.length ≤ cap ∧ (cap ≤ maxLen ∧ (a = none → cap = 0)) ∧ (∀ u ∈ us, u.oneCell' = true) ∧
    (us = [] ∨ ∃ b off, a = some ⟨b, off, none⟩ ∧ b < w.heap.size ∧ ∀ i, i < us.length → w.cell? ⟨b, off + i, none⟩ = some (us.getD i nilRow))
theorem Vals.below {w w' : World} {v : Value} {us : List Value} (h : Vals w v us) (hb : Below w.heap.size w w') : Vals w' v us := by
  obtain ⟨a, cap, rfl, h1, h2, h0, h3⟩ := h
  refine ⟨a, cap, rfl, h1, h2, h0, ?_⟩
  rcases h3 with h3 | ⟨b, off, rfl, hlt, hc⟩
  · exact .inl h3
  · exact .inr ⟨b, off, rfl, Nat.lt_of_lt_of_le hlt hb.size, fun i hi => (hb.cell (p := ⟨b, off + i, none⟩) hlt).trans (hc i hi)⟩
theorem oneCell_slice {a : Option Addr} {n c : Nat} : (Value.slice a n c).oneCell' = true := rfl
theorem RdM.vals {w : World} {v : Value} {m : List (List Int)} (h : RdM w v m) : ∃ us, Vals w v us ∧ us.length = m.length ∧ ∀ i, i < m.length → Rd w (us.getD i nilRow) (m.getD i []) := by
  obtain ⟨a, cap, rfl, h1, h2, h3⟩ := h
  rcases h3 with h3 | ⟨b, off, rfl, hlt, hc⟩
  · subst h3
    exact ⟨[], ⟨a, cap, rfl, h1, h2, fun u hu => by simp at hu, .inl rfl⟩, rfl, fun i hi => by simp at hi⟩
  · obtain ⟨us, hus⟩ : ∃ us, us = (List.range m.length).map fun i => (w.cell? ⟨b, off + i, none⟩).getD nilRow := ⟨_, rfl⟩
    have hl : us.length = m.length := by rw [hus]; simp
    have hg : ∀ i, i < m.length → w.cell? ⟨b, off + i, none⟩ = some (us.getD i nilRow) ∧ Rd w (us.getD i nilRow) (m.getD i []) := by
      intro i hi
      obtain ⟨u, hu, hr⟩ := hc i hi
      have e : us.getD i nilRow = u := by rw [hus]; simp [List.getD_eq_getElem?_getD, hi, hu]
      rw [e]
      exact ⟨hu, hr⟩
    refine ⟨us, ⟨_, cap, by rw [hl], by rw [hl]; exact h1, h2, fun u hu => ?_, .inr ⟨b, off, rfl, hlt, fun i hi => (hg i (by omega)).1⟩⟩, hl, fun i hi => (hg i hi).2⟩
    obtain ⟨i, hi, rfl⟩ := List.mem_iff_getElem.1 hu
    obtain ⟨x, c, hx, _⟩ := (hg i (by omega)).2
    rw [List.getD_eq_getElem?_getD, List.getElem?_eq_getElem hi, Option.getD_some] at hx
    rw [hx]
    rfl
theorem MatV.vals {w : World} {lo hi : Nat} {v : Value} {vs : List Value} {m : List (List Int)} (h : MatV w lo hi v vs m) : Vals w v vs := by
  have h1 : ∀ u ∈ vs, u.oneCell' = true := by
    intro u hu
    obtain ⟨i, hi, rfl⟩ := List.mem_iff_getElem.1 hu
    obtain ⟨a, n, c, hs⟩ := (h.row i (by rw [← h.len]; exact hi)).shape
    rw [List.getD_eq_getElem?_getD, List.getElem?_eq_getElem hi, Option.getD_some] at hs
    rw [hs]
    rfl
  rcases h.head.2 with ⟨rfl, hn⟩ | ⟨g, cap, cur, rfl, hb, hg, hc, hm, hs, ht⟩
  · have : vs = [] := List.eq_nil_of_length_eq_zero (by rw [h.len]; exact hn)
    subst this
    exact ⟨none, 0, rfl, Nat.le_refl _, ⟨Nat.zero_le _, fun _ => rfl⟩, fun u hu => by simp at hu, .inl rfl⟩
  · refine ⟨_, cap, by rw [h.len], by rw [h.len]; exact hc, ⟨hm, fun h => by cases h⟩, h1, .inr ⟨g, 0, rfl, (Array.getElem?_eq_some_iff.1 hg).1, fun i hi => ?_⟩⟩
    rw [Nat.zero_add]
    exact h.cell i (by rw [← h.len]; exact hi)
theorem full_V {w : World} {base g n : Nat} {e : TypeId} {xs : List Value} (h : w.ownsRow base e 1 (.slice (some ⟨g, 0, none⟩) n n) n xs) : w.heap[g]? = some (.cells xs.toArray e (0, 0)) := by
  rcases h.2 with ⟨h', _⟩ | ⟨g', cap', cur, h', _, hg, _, _, hs, ht⟩
  · simp at h'
  · simp only [Value.slice.injEq, Option.some.injEq, Addr.mk.injEq, and_true, true_and] at h'
    obtain ⟨rfl, rfl⟩ := h'
    rw [hg, ← ht, List.take_of_length_le (by rw [Array.length_toList, hs]; omega)]
theorem of_block_V {w : World} {base g : Nat} {e : TypeId} {zs : List Value} (h : w.heap[g]? = some (.cells zs.toArray e (0, 0))) (hb : base ≤ g) (hm : zs.length ≤ maxLen) :
    w.ownsRow base e 1 (.slice (some ⟨g, 0, none⟩) zs.length zs.length) zs.length zs :=
  ⟨by simp, .inr ⟨g, zs.length, _, rfl, hb, h, Nat.le_refl _, hm, by simp, List.take_of_length_le (by simp)⟩⟩
def splV (ws : List Value) (off : Nat) (zs : List Value) : List Value := ws.take off ++ (zs ++ ws.drop (off + zs.length))
/-- 'copy(out[off:], p)', out a list of rows that the call has made, p not longer than what is there. -/
theorem wpList_copy_vals {w : World} {ops : Array Oper} {rest : List Oper} {o : Oper} {a : Act} {Q : Exit → Act → World → Prop} (hgd : o.guard = none) (d s : Operand)
    (ho : o.op = .call { callee := .builtin .copy, args := #[d, s], argTypes := #[46, 46] })
    (base g N off dLen dCap : Nat) (u : Value) (ws cs : List Value) (hd : a.eval d = .slice (some ⟨g, off, none⟩) dLen dCap) (hs : a.eval s = u)
    (hown : w.ownsRow base 22 1 (.slice (some ⟨g, 0, none⟩) N N) N ws) (hr : Vals w u cs) (hdl : cs.length ≤ dLen) (hfit : off + cs.length ≤ N)
    (h : ∀ w', w'.ownsRow base 22 1 (.slice (some ⟨g, 0, none⟩) N N) N (splV ws off cs) → w.grownBy w' (some g) → wpList Tryd.prog ops Q rest (a.put o.dst (goInt cs.length)) w') : wpList Tryd.prog ops Q (o :: rest) a w := by
  obtain ⟨sp, cap, rfl, h1, h2, h0, h3⟩ := hr
  have hwl : ws.length = N := by have := hown.1; simpa using this
  have hg := full_V hown
  have hbg : base ≤ g := (World.ownsRow.lt hown g rfl).1
  have hmx : N ≤ maxLen := by
    rcases hown.2 with ⟨h', _⟩ | ⟨g', cap', cur, h', _, _, _, hm, _⟩
    · simp at h'
    · simp at h'; omega
  rcases h3 with h3 | ⟨b, so, rfl, hlt, hc⟩
  · subst h3
    refine wpList_copy_nothing (w := w) hgd d s 46 46 ho 22 Tryd.underlying46 infoRowSize (some ⟨g, off, none⟩) sp dLen dCap 0 cap hd hs (by simp) ?_
    refine h w ?_ (World.grownBy.refl _ _)
    simp only [splV, List.nil_append, List.length_nil, Nat.add_zero, List.take_append_drop]
    exact hown
  · refine wpList_copy_own (w := w) hgd d s 46 46 ho 22 Tryd.underlying46 infoRowSize g off dLen dCap ⟨b, so, none⟩ cs.length cap hd hs ws.toArray 22 hg cs (Nat.min_eq_left hdl).symm ?_ (by simp; omega) h0 ?_
    · intro j y hj
      have hjl : j < cs.length := (List.getElem?_eq_some_iff.1 hj).1
      have hadd : (⟨b, so, none⟩ : Addr).add j = ⟨b, so + j, none⟩ := by unfold Addr.add; split <;> simp_all
      rw [hadd, hc j hjl, List.getD_eq_getElem?_getD, hj]
      rfl
    · have hl : (splV ws off cs).length = N := by simp [splV]; omega
      have := of_block_V (base := base) (setRow_heap w g _ (splV ws off cs).toArray 22 _ hg) hbg (by rw [hl]; exact hmx)
      rw [hl] at this
      exact h _ this ⟨rfl, rfl, rfl, by simp [World.setRow], fun k _ hk => setRow_other w g k _ (fun e => hk (by simp [e]))⟩
theorem getD_app {α : Type} (a b : List α) (d : α) (i : Nat) : (a ++ b).getD i d = if i < a.length then a.getD i d else b.getD (i - a.length) d := by
  simp only [List.getD_eq_getElem?_getD]
  by_cases h : i < a.length
  · rw [if_pos h, List.getElem?_append_left h]
  · rw [if_neg h, List.getElem?_append_right (by omega)]
/-- Rows behind rows: the outer list is new (or the first one's, grown), the rows are theirs. -/
theorem MatV.cat {w w2 : World} {B lo hi lo' hi' : Nat} {v1 v2 v' : Value} {vs1 vs2 : List Value} {m1 m2 : List (List Int)} (h1 : MatV w lo hi v1 vs1 m1) (h2 : MatV w lo' hi' v2 vs2 m2) (hl1 : B ≤ lo) (hl2 : B ≤ lo') (hd : hi ≤ lo' ∨ hi' ≤ lo) (hh : hi' ≤ w.heap.size) (hh1 : hi ≤ w.heap.size)
    (blk : Option Nat) (hg : w.grownBy w2 blk) (hb1 : ∀ i, i < m1.length → (vs1.getD i nilRow).ownBlock = none ∨ (vs1.getD i nilRow).ownBlock ≠ blk) (hb2 : ∀ i, i < m2.length → (vs2.getD i nilRow).ownBlock = none ∨ (vs2.getD i nilRow).ownBlock ≠ blk)
    (ho : w2.ownsRow B 22 1 v' (m1.length + m2.length) (vs1 ++ vs2)) : MatV w2 B w2.heap.size v' (vs1 ++ vs2) (m1 ++ m2) := by
  have hs := hg.size
  have e1 := h1.len
  have e2 := h2.len
  refine ⟨by simp [e1, e2], by rw [List.length_append]; exact ho, ?_, fun k hk => (World.ownsRow.lt ho k hk).2, ?_, ?_⟩
  · intro i hi
    rw [List.length_append] at hi
    rw [getD_app, getD_app, e1]
    split
    · rename_i h; exact World.ownsRow.kept (Own.mono (h1.row i h) hl1) hg (hb1 i h)
    · exact World.ownsRow.kept (Own.mono (h2.row (i - m1.length) (by omega)) hl2) hg (hb2 (i - m1.length) (by omega))
  · intro i k hi hk
    rw [List.length_append] at hi
    rw [getD_app, e1] at hk
    split at hk
    · rename_i h; have := h1.tops i k h hk; omega
    · have := h2.tops (i - m1.length) k (by omega) hk; omega
  · intro i j hi hj hij
    rw [List.length_append] at hi hj
    rw [getD_app, getD_app, e1]
    have cross : ∀ i j, i < m1.length → j < m2.length → ∀ x, (vs1.getD i nilRow).ownBlock = some x → (vs2.getD j nilRow).ownBlock = some x → False := by
      intro i j hi hj x h3 h4
      have q1 := h1.tops i x hi h3
      have q2 := (World.ownsRow.lt (h2.row j hj) x h4).1
      have q3 := h2.tops j x hj h4
      have q4 := (World.ownsRow.lt (h1.row i hi) x h3).1
      omega
    by_cases a : i < m1.length
    · by_cases b : j < m1.length
      · rw [if_pos a, if_pos b]; exact h1.apart i j a b hij
      · rw [if_pos a, if_neg b]
        cases hu : (vs1.getD i nilRow).ownBlock with
        | none => exact .inl rfl
        | some x => exact .inr (fun e => cross i (j - m1.length) a (by omega) x hu e.symm)
    · by_cases b : j < m1.length
      · rw [if_neg a, if_pos b]
        cases hu : (vs2.getD (i - m1.length) nilRow).ownBlock with
        | none => exact .inl rfl
        | some x => exact .inr (fun e => cross j (i - m1.length) b (by omega) x e.symm hu)
      · rw [if_neg a, if_neg b]; exact h2.apart _ _ (by omega) (by omega) (by omega)
/-- 'append(a, b...)', rows of the call's own behind rows of its own. -/
theorem wpList_append_mat {w : World} {ops : Array Oper} {rest : List Oper} {o : Oper} {a : Act} {Q : Exit → Act → World → Prop} (hgd : o.guard = none) (s x : Operand)
    (ho : o.op = .call { callee := .builtin .append, args := #[s, x], argTypes := #[46, 46] })
    (B lo hi lo' hi' : Nat) (v1 v2 : Value) (vs1 vs2 : List Value) (m1 m2 : List (List Int)) (hs : a.eval s = v1) (hx : a.eval x = v2) (h1 : MatV w lo hi v1 vs1 m1) (h2 : MatV w lo' hi' v2 vs2 m2)
    (hl1 : B ≤ lo) (hl2 : B ≤ lo') (hd : hi ≤ lo' ∨ hi' ≤ lo) (hh : hi' ≤ w.heap.size) (hh1 : hi ≤ w.heap.size) (h0 : 0 < m2.length) (hn1 : m1.length ≤ 1048576) (hn2 : m2.length ≤ 1048576) (hB : B ≤ w.heap.size)
    (K : ∀ v' w', MatV w' B w'.heap.size v' (vs1 ++ vs2) (m1 ++ m2) → w.grownBy w' v1.ownBlock → wpList Tryd.prog ops Q rest (a.put o.dst v') w') : wpList Tryd.prog ops Q (o :: rest) a w := by
  obtain ⟨i0, hi0, hz0, hz1, hz2⟩ := info_parts infoRow
  obtain ⟨sp, cap, rfl, q1, q2, q0, q3⟩ := h2.vals
  have e2 := h2.len
  rcases q3 with q3 | ⟨b, off, rfl, hlt, hc⟩
  · rw [q3] at e2; simp at e2; omega
  have hown : w.ownsRow B 22 1 v1 m1.length vs1 := by
    refine ⟨h1.head.1, ?_⟩
    rcases h1.head.2 with hn | ⟨g, cap, cur, rfl, hb', rest⟩
    · exact .inl hn
    · exact .inr ⟨g, cap, cur, rfl, Nat.le_trans hl1 hb', rest⟩
  refine wpList_append_own (w := w) hgd s x _ ho B _ i0 (.slice none 0 0) 1 24 Tryd.underlying46 hi0 hz0 hz1 hz2 rfl (by decide) v1 m1.length vs1 hs hown ⟨b, off, none⟩ vs2.length cap vs2 hx (by simp) ?_ q0 (by unfold maxLen; omega) (by omega) hB ?_
  · intro j y hj
    have hjl : j < vs2.length := (List.getElem?_eq_some_iff.1 hj).1
    have hadd : (⟨b, off, none⟩ : Addr).add j = ⟨b, off + j, none⟩ := by unfold Addr.add; split <;> simp_all
    rw [hadd, hc j hjl, List.getD_eq_getElem?_getD, hj]
    rfl
  · intro v' w' ho' hg' _
    refine K v' w' (h1.cat h2 hl1 hl2 hd hh hh1 _ hg' (fun i hi => heads_apart' h1.head (h1.row i hi)) (fun i hi => heads_apart' h1.head (h2.row i hi)) ?_) hg'
    rw [e2] at ho'
    exact ho'
theorem splV_two (N : Nat) (fs bs : List Value) (h : N = fs.length + bs.length) : splV (splV (List.replicate N nilRow) 0 fs) fs.length bs = fs ++ bs := by
  subst h
  simp [splV]

set_option maxRecDepth 100000 in
set_option maxHeartbeats 800000 in
theorem joinLists_calls (fv bv : Value) (fs bs : List Value) (w : World) (hf : Vals w fv fs) (hb : Vals w bv bs) (hn1 : fs.length ≤ 4096) (hn2 : bs.length ≤ 4096) (h0 : 0 < bs.length) :
    Calls Tryd.prog 118 #[fv, bv] w fun e w' => e = .returned (.slice (some ⟨w.heap.size, 0, none⟩) (fs.length + bs.length) (fs.length + bs.length)) ∧
      w'.ownsRow w.heap.size 22 1 (.slice (some ⟨w.heap.size, 0, none⟩) (fs.length + bs.length) (fs.length + bs.length)) (fs.length + bs.length) (fs ++ bs) ∧ w.grownBy w' none := by
  have F := hide hf
  have G := hide hb
  obtain ⟨fa, fcap, rfl, _⟩ := hf
  obtain ⟨ba, bcap, rfl, _⟩ := hb
  obtain ⟨N, hN⟩ : ∃ N, N = fs.length + bs.length := ⟨_, rfl⟩
  rw [← hN]
  have HN := hide hN
  have hN1 : fs.length < N := by omega
  have hN2 : N ≤ 8192 := by omega
  have HN3 : Hid (((fs.length : Int) + (bs.length : Int)) = (N : Int)) := by show ((fs.length : Int) + (bs.length : Int)) = (N : Int); omega
  have hN4 : Hid (fs.length + bs.length ≤ N) := by show fs.length + bs.length ≤ N; omega
  clear hN
  go_enter Tryd.func118, Tryd.ntmps118
  go_wp2_with (at_make; refine wpList_make_rows rfl _ _ rfl _ _ N rfl rfl HN3.out HN3.out (by omega) ?_)
  intro w0 hm0 hg0
  have ho0 : w0.ownsRow w.heap.size 22 1 (.slice (some ⟨w.heap.size, 0, none⟩) N N) N (List.replicate N nilRow) := by
    have := hm0.head
    rwa [List.length_replicate] at this
  have hb0 : Below w.heap.size w w0 := (Below.refl _ _).grown hg0 (Nat.le_refl _) (fun k h => by cases h)
  have O0 := hide ho0
  have B0 := hide hb0
  clear hm0 hg0 ho0 hb0
  go_wp2_with (refine wpList_copy_vals rfl (.tmp 12) (.tmp 13) rfl w.heap.size w.heap.size N 0 N N _ (List.replicate N nilRow) fs rfl rfl O0.out (F.out.below B0.out) (by omega) (by omega) ?_)
  intro w1 ho1 hg1
  have hb1 : Below w.heap.size w w1 := B0.out.grown hg1 B0.out.size (fun k hk => by cases hk; exact Nat.le_refl _)
  have O1 := hide ho1
  have B1 := hide hb1
  have i0 : (0 : Int) ≤ (fs.length : Int) := by omega
  have i1 : (fs.length : Int) ≤ (N : Int) := by omega
  have i3 : ¬ (N = fs.length) := by omega
  clear ho1 hg1 hb1
  go_wp2_with (refine wpList_copy_vals rfl (.tmp 18) (.tmp 19) rfl w.heap.size w.heap.size N fs.length (N - fs.length) (N - fs.length) _ (splV (List.replicate N nilRow) 0 fs) bs rfl rfl O1.out (G.out.below B1.out) (by have := hN4.out; omega) hN4.out ?_)
  intro w2 ho2 hg2
  have hb2 : Below w.heap.size w w2 := B1.out.grown hg2 B1.out.size (fun k hk => by cases hk; exact Nat.le_refl _)
  rw [splV_two N fs bs HN.out] at ho2
  have O2 := hide ho2
  have B2 := hide hb2
  clear ho2 hg2 hb2
  go_wp2
  go_ret
  exact ⟨rfl, O2.out, B2.out.os, B2.out.tape, B2.out.output, B2.out.size, fun k hk _ => B2.out.block k hk⟩
end Go.Proofs.YtogopakmebiomaaDoor

namespace Go.Proofs.YtogopakmebiomaaDoor
open Go.RowKit

theorem contains_at {xs : List Int} {x : Int} {k : Nat} (hk : k < xs.length) (h : xs.getD k 0 = x) : xs.contains x = true := by
  rw [List.contains_eq_mem, decide_eq_true_eq, ← h, List.getD_eq_getElem?_getD, List.getElem?_eq_getElem hk, Option.getD_some]
  exact List.getElem_mem hk
theorem contains_no {xs : List Int} {x : Int} (h : ∀ i, i < xs.length → xs.getD i 0 ≠ x) : xs.contains x = false := by
  rw [List.contains_eq_mem, decide_eq_false_iff_not]
  intro hm
  obtain ⟨i, hi, rfl⟩ := List.mem_iff_getElem.1 hm
  refine h i hi ?_
  rw [List.getD_eq_getElem?_getD, List.getElem?_eq_getElem hi, Option.getD_some]

set_option maxRecDepth 100000 in
set_option maxHeartbeats 800000 in
theorem l1Has_calls (v : Value) (xs : List Int) (x : Int) (w : World) (h : Rd w v xs) :
    Calls Tryd.prog 149 #[v, .int .i64 x] w fun e w' => e = .returned (.bool (xs.contains x)) ∧ w = w' := by
  have R := hide h
  obtain ⟨a, cap, rfl, q1, q2, q3⟩ := h
  have hm : xs.length ≤ maxLen := by omega
  unfold maxLen at hm
  clear q1 q2 q3
  obtain ⟨r, hr⟩ : ∃ r, r = xs.contains x := ⟨_, rfl⟩
  rw [← hr]
  have HR := hide hr
  clear hr
  go_enter Tryd.func149, Tryd.ntmps149
  go_wp2
  go_loop [9] (fun vi => ∃ (k : Nat), k ≤ xs.length ∧ vi = .int .i64 k ∧ ∀ i, i < k → xs.getD i 0 ≠ x) (fun vi => xs.length - (intOf vi).toNat)
  case atStart => exact ⟨0, Nat.zero_le _, rfl, fun i hi => by omega⟩
  case round =>
    obtain ⟨k, hk, rfl, hall⟩ := hrel
    have A := hide hall
    clear hall
    by_cases hlt : k < xs.length
    · have hlt' : (k : Int) < (xs.length : Int) := by omega
      obtain ⟨b, off, u, rfl, hc, hu⟩ := R.out.row k hlt
      obtain ⟨y, hy⟩ : ∃ y, y = xs.getD k 0 := ⟨_, rfl⟩
      rw [← hy] at hu
      subst hu
      have Y := hide hy
      clear hy
      by_cases e : y = x
      · have e1 : (y == x) = true := by simp [e]
        have E := hide e
        clear e
        go_wp2
        go_ret
        exact ⟨Gf.ret_bool (by rw [HR.out, contains_at hlt (by rw [← Y.out, E.out])]), rfl⟩
      · have e1 : (y == x) = false := by simp [e]
        have E := hide e
        clear e
        go_wp2
        go_round
        case rel =>
          refine ⟨k + 1, by omega, by go_num, fun i hi => ?_⟩
          by_cases ee : i = k
          · subst ee; rw [← Y.out]; exact E.out
          · exact A.out i (by omega)
        case measure => simp [intOf]; omega
    · obtain rfl : k = xs.length := by omega
      go_wp2
      go_ret
      exact ⟨Gf.ret_bool (by rw [HR.out, contains_no A.out]), rfl⟩
theorem rd_take {w : World} {a : Option Addr} {n cap : Nat} {xs : List Int} (h : Rd w (.slice a n cap) xs) (i : Nat) (hi : i ≤ xs.length) : Rd w (.slice a i cap) (xs.take i) := by
  obtain ⟨a', cap', hv, h1, h2, h3⟩ := h
  simp only [Value.slice.injEq] at hv
  obtain ⟨rfl, rfl, rfl⟩ := hv
  have hl : (xs.take i).length = i := by simp; omega
  refine ⟨a, cap, by rw [hl], by rw [hl]; omega, h2, ?_⟩
  rcases h3 with h3 | ⟨b, off, rfl, hlt, hc⟩
  · subst h3; exact .inl (by simp)
  · refine .inr ⟨b, off, rfl, hlt, fun j hj => ?_⟩
    rw [hl] at hj
    rw [hc j (by omega)]
    simp [List.getD_eq_getElem?_getD, hj]

theorem seenZero : Tryd.zeroCells132 = (List.replicate 256 (Value.bool false)).toArray := by kernel_rfl
theorem seenInfo : (Tryd.prog.info? 132).map (·.size) = some Tryd.zeroCells132.size := by kernel_rfl
theorem seenOne : Tryd.zeroCells132.all (·.oneCell') = true := by kernel_rfl
theorem seen_new (w : World) : (w.alloc (.cells Tryd.zeroCells132 132)).ownsRow w.heap.size 132 1 (.slice (some ⟨w.heap.size, 0, none⟩) 256 256) 256 (seenL []) := by
  have := of_block_V (w := w.alloc (.cells Tryd.zeroCells132 132)) (base := w.heap.size) (g := w.heap.size) (e := 132) (zs := List.replicate 256 (Value.bool false)) (by rw [← seenZero]; exact heap_alloc_last w _) (Nat.le_refl _) (by rw [List.length_replicate]; unfold maxLen; omega)
  rw [seenL_nil]
  rw [List.length_replicate] at this
  exact this
theorem flat_take (ls : List (List Int)) (i : Nat) (h : i < ls.length) : (ls.take (i + 1)).flatten = (ls.take i).flatten ++ ls.getD i [] := by
  rw [take_snoc ls [] i h, List.flatten_append]
  simp
theorem flat_no {ls : List (List Int)} {i k : Nat} (hi : i < ls.length) (h : unl ((ls.take i).flatten ++ (ls.getD i []).take k) = false) : unl ls.flatten = false := by
  have e : ls.flatten = ((ls.take i).flatten ++ (ls.getD i []).take k) ++ ((ls.getD i []).drop k ++ (ls.drop (i + 1)).flatten) := by
    conv => lhs; rw [← List.take_append_drop (i + 1) ls, List.flatten_append, flat_take ls i hi]
    rw [List.append_assoc, List.append_assoc, ← List.append_assoc ((ls.getD i []).take k), List.take_append_drop]
  rw [e]
  exact unl_app h _

set_option maxRecDepth 100000 in
set_option maxHeartbeats 1600000 in
theorem areUnlike_calls (v : Value) (ls : List (List Int)) (w : World) (h : RdM w v ls) (hn : ls.length ≤ 1048576) (hl : ∀ i, i < ls.length → (ls.getD i []).length ≤ 1048576) :
    Calls Tryd.prog 167 #[v] w fun e w' => e = .returned (.bool (unl ls.flatten)) ∧ Below w.heap.size w w' := by
  have R := hide h
  have HL := hide hl
  obtain ⟨a, cap, rfl, _⟩ := h
  clear hl
  obtain ⟨res, hres⟩ : ∃ r, r = unl ls.flatten := ⟨_, rfl⟩
  rw [← hres]
  have RES := hide hres
  clear hres
  have hsc := run_storeCells_new (P := Tryd.prog) w 132 Tryd.zeroCells132 Tryd.zeroCells132 seenInfo rfl seenOne
  have HSC := hide hsc
  clear hsc
  go_enter Tryd.func167, Tryd.ntmps167
  go_wp2
  rw [HSC.out]
  simp only [Result.andThen]
  rw [Oper.upon_skip]
  have O0 := hide (seen_new w)
  have B0 := hide ((Below.refl w.heap.size w).alloc (Nat.le_refl _) (.cells Tryd.zeroCells132 132))
  obtain ⟨w0, hw0⟩ : ∃ w0, w0 = w.alloc (.cells Tryd.zeroCells132 132) := ⟨_, rfl⟩
  rw [← hw0] at O0 B0 ⊢
  clear hw0 HSC
  go_wp2
  go_loopw [11] (fun vi wr => ∃ (i : Nat), i ≤ ls.length ∧ vi = .int .i64 i ∧ unl (ls.take i).flatten = true ∧ wr.ownsRow w.heap.size 132 1 (.slice (some ⟨w.heap.size, 0, none⟩) 256 256) 256 (seenL (ls.take i).flatten) ∧ Below w.heap.size w wr) (fun vi _ => ls.length - (intOf vi).toNat)
  case atStart => exact ⟨0, Nat.zero_le _, rfl, unl_nil, O0.out, B0.out⟩
  case round =>
    obtain ⟨i, hi, rfl, hu, ho, hb⟩ := hrel
    have U := hide hu
    have O := hide ho
    have B := hide hb
    clear hu ho hb
    by_cases hlt : i < ls.length
    · have hlt' : (i : Int) < (ls.length : Int) := by omega
      obtain ⟨b, off, uv, rfl, hbl, hc, hrd⟩ := R.out.rowAt i hlt
      have hc1 : wr.cell? ⟨b, off + i, none⟩ = some uv := (B.out.cell (p := ⟨b, off + i, none⟩) hbl).trans hc
      obtain ⟨r, hr⟩ : ∃ r, r = ls.getD i [] := ⟨_, rfl⟩
      have hrl := HL.out i hlt
      have hft := flat_take ls i hlt
      rw [← hr] at hrd hrl hft
      obtain ⟨pre, hpre⟩ : ∃ p, p = (ls.take i).flatten := ⟨_, rfl⟩
      have hno : ∀ k, unl (pre ++ r.take k) = false → res = false := fun k hk => by
        rw [RES.out]
        exact flat_no hlt (k := k) (by rw [← hr, ← hpre]; exact hk)
      rw [← hpre] at hft
      have hu1 := U.out
      have ho1 := O.out
      rw [← hpre] at hu1 ho1
      have RD := hide hrd
      have NO := hide hno
      have FT := hide hft
      have U1 := hide hu1
      have O1 := hide ho1
      obtain ⟨ua, uc, rfl, _⟩ := hrd
      clear hc hr hft hpre hno hu1 ho1 U O
      go_wp2
      go_loopw [17] (fun vi wr2 => ∃ (k : Nat), k ≤ r.length ∧ vi = .int .i64 k ∧ unl (pre ++ r.take k) = true ∧ wr2.ownsRow w.heap.size 132 1 (.slice (some ⟨w.heap.size, 0, none⟩) 256 256) 256 (seenL (pre ++ r.take k)) ∧ Below w.heap.size w wr2) (fun vi _ => r.length - (intOf vi).toNat)
      case atStart =>
        refine ⟨0, Nat.zero_le _, rfl, ?_, ?_, B.out⟩
        · rw [List.take_zero, List.append_nil]; exact U1.out
        · rw [List.take_zero, List.append_nil]; exact O1.out
      case round =>
        obtain ⟨k, hk, rfl, hu2, ho2, hb2⟩ := hrel
        have U2 := hide hu2
        have O2 := hide ho2
        have B2 := hide hb2
        clear hu2 ho2 hb2
        by_cases hltk : k < r.length
        · have hltk' : (k : Int) < (r.length : Int) := by omega
          obtain ⟨rb, roff, ru, rfl, hrc, hru⟩ := (RD.out.below B2.out).row k hltk
          obtain ⟨x, hx⟩ : ∃ x, x = r.getD k 0 := ⟨_, rfl⟩
          rw [← hx] at hru
          subst hru
          have hsn : unl (pre ++ r.take (k + 1)) = (unl (pre ++ r.take k) && (Gf.elOk x && !(pre ++ r.take k).contains x)) := by
            rw [take_snoc r 0 k hltk, ← hx, ← List.append_assoc, unl_snoc]
          have htk : pre ++ r.take (k + 1) = (pre ++ r.take k) ++ [x] := by rw [take_snoc r 0 k hltk, ← hx, List.append_assoc]
          rw [U2.out, Bool.true_and] at hsn
          have SN := hide hsn
          have TK := hide htk
          clear hsn htk hx
          cases hel : Gf.elOk x with
          | false =>
            have EL := hide hel
            have hf : res = false := NO.out (k + 1) (by rw [SN.out, EL.out]; rfl)
            have F := hide hf
            clear hel hf
            go_wp2_with fail
            refine (Gf.isE_calls x _).mono ?_
            rw [EL.out]
            rintro e w' ⟨rfl, rfl⟩
            go_wp2
            go_ret
            exact ⟨Gf.ret_bool F.out.symm, B2.out⟩
          | true =>
            have EL := hide hel
            obtain ⟨hx0, hx1⟩ := elOk_facts hel
            obtain ⟨n, rfl⟩ := Int.eq_ofNat_of_zero_le hx0
            have hn256 : n < 256 := by omega
            have hcell := World.ownsRow.cellAt O2.out n (by omega)
            rw [seenL_get _ n hn256] at hcell
            have hfr : wr.frozen? ⟨w.heap.size, n, none⟩ = false := World.ownsRow.frozenAt O2.out n
            have ST := hide (World.ownsRow.stored O2.out n (.bool true))
            obtain ⟨c, hcc⟩ : ∃ c, c = (pre ++ r.take k).contains (n : Int) := ⟨_, rfl⟩
            rw [← hcc] at hcell
            have CC := hide hcc
            have i0 : (0 : Int) ≤ (n : Int) := by omega
            have i1 : (n : Int) < 256 := by omega
            clear hel hcc hx0 hx1
            cases c with
            | true =>
              have hf : res = false := NO.out (k + 1) (by rw [SN.out, EL.out, ← CC.out]; rfl)
              have F := hide hf
              clear hf
              go_wp2_with fail
              refine (Gf.isE_calls (n : Int) _).mono ?_
              rw [EL.out]
              rintro e w' ⟨rfl, rfl⟩
              go_wp2
              go_ret
              exact ⟨Gf.ret_bool F.out.symm, B2.out⟩
            | false =>
              go_wp2_with fail
              refine (Gf.isE_calls (n : Int) _).mono ?_
              rw [EL.out]
              rintro e w' ⟨rfl, rfl⟩
              go_wp2
              go_roundw
              case rel =>
                refine ⟨k + 1, by omega, by go_num, ?_, ?_, B2.out.setCell (Nat.le_refl _) _⟩
                · rw [SN.out, EL.out, ← CC.out]; rfl
                · have := ST.out.1
                  rw [seenL_set _ n hn256, ← TK.out] at this
                  exact this
              case measure => simp [intOf]; omega
        · obtain rfl : k = r.length := by omega
          go_wp2
          go_roundw
          case rel =>
            have h1 := U2.out
            have h2 := O2.out
            rw [List.take_of_length_le (Nat.le_refl _), ← FT.out] at h1 h2
            exact ⟨i + 1, by omega, by go_num, h1, h2, B2.out⟩
          case measure => simp [intOf]; omega
    · obtain rfl : i = ls.length := by omega
      have hf : res = true := by
        have := U.out
        rw [List.take_of_length_le (Nat.le_refl _)] at this
        rw [RES.out, this]
      have F := hide hf
      clear hf
      go_wp2
      go_ret
      exact ⟨Gf.ret_bool F.out.symm, B.out⟩
end Go.Proofs.YtogopakmebiomaaDoor

namespace Go.Proofs.YtogopakmebiomaaDoor
open Go.RowKit

theorem rd_single {w : World} {z : Int} : Rd (w.alloc (.cells #[.int .i64 z] 3)) (.slice (some ⟨w.heap.size, 0, none⟩) 1 1) [z] := by
  refine ⟨_, 1, rfl, Nat.le_refl _, ⟨by unfold maxLen; omega, fun h => by cases h⟩, .inr ⟨_, 0, rfl, by simp, fun i hi => ?_⟩⟩
  simp at hi
  subst hi
  exact World.cell?_alloc_at _ _ _ _ (by simp)
theorem cauRow_length (a : Int) (ys : List Int) : (cauRow a ys).length = ys.length := by simp [cauRow]
theorem cauRow_get (a : Int) (ys : List Int) (j : Nat) (h : j < ys.length) : (cauRow a ys).getD j 0 = ((Gf.inv (a.toNat ^^^ (ys.getD j 0).toNat) : Nat) : Int) := by simp [cauRow, List.getD_eq_getElem?_getD, h]
theorem cauM_length (xs ys : List Int) : (cauM xs ys).length = xs.length := by simp [cauM]
theorem cauM_get (xs ys : List Int) (i : Nat) (h : i < xs.length) : (cauM xs ys).getD i [] = cauRow (xs.getD i 0) ys := by simp [cauM, List.getD_eq_getElem?_getD, h]

set_option maxRecDepth 100000 in
set_option maxHeartbeats 1600000 in
theorem l2Cauchy_calls (xv yv : Value) (xs ys : List Int) (w : World) (hx : Rd w xv xs) (hy : Rd w yv ys) (ex : xs.all Gf.elOk = true) (ey : ys.all Gf.elOk = true) (hnx : xs.length ≤ 1048576) (hny : ys.length ≤ 1048576) :
    Calls Tryd.prog 153 #[xv, yv] w fun e w' => ∃ v', e = .returned v' ∧ Mat w' w.heap.size w'.heap.size v' (cauM xs ys) ∧ Below w.heap.size w w' := by
  have RX := hide hx
  have RY := hide hy
  have EX := hide ex
  have EY := hide ey
  obtain ⟨xa, xcap, rfl, _⟩ := hx
  obtain ⟨ya, ycap, rfl, _⟩ := hy
  clear ex ey
  go_enter Tryd.func153, Tryd.ntmps153
  go_wp2
  go_loopw [5, 13] (fun vo vi wr => ∃ (k : Nat) (vs : List Value), k ≤ xs.length ∧ vi = .int .i64 k ∧ MatV wr w.heap.size wr.heap.size vo vs ((cauM xs ys).take k) ∧ Below w.heap.size w wr) (fun _ vi _ => xs.length - (intOf vi).toNat)
  case atStart =>
    obtain ⟨vs, hv⟩ := Mat.nil w w.heap.size w.heap.size
    exact ⟨0, vs, Nat.zero_le _, rfl, hv, Below.refl _ _⟩
  case round =>
    obtain ⟨k, vs, hk, rfl, hm, hb⟩ := hrel
    have M := hide hm
    have B := hide hb
    clear hm hb
    by_cases hlt : k < xs.length
    · have hlt' : (k : Int) < (xs.length : Int) := by omega
      obtain ⟨b, off, u, rfl, hc, hu⟩ := (RX.out.below B.out).row k hlt
      obtain ⟨x, hxx⟩ : ∃ x, x = xs.getD k 0 := ⟨_, rfl⟩
      rw [← hxx] at hu
      subst hu
      obtain ⟨r, hr⟩ : ∃ r, r = cauRow x ys := ⟨_, rfl⟩
      have hrl : r.length = ys.length := by rw [hr, cauRow_length]
      have hrg : ∀ j, j < ys.length → r.getD j 0 = ((Gf.inv (x.toNat ^^^ (ys.getD j 0).toNat) : Nat) : Int) := fun j hj => by rw [hr, cauRow_get _ _ _ hj]
      have hnext : (cauM xs ys).take k ++ [r] = (cauM xs ys).take (k + 1) := by
        rw [take_snoc (cauM xs ys) [] k (by rw [cauM_length]; exact hlt), cauM_get _ _ _ hlt, ← hxx, hr]
      have hex := Gf.elOk_tests (Gf.all_of_getD.1 EX.out k hlt)
      rw [← hxx] at hex
      obtain ⟨A, rfl⟩ := Int.eq_ofNat_of_zero_le hex.1
      have hA : A < 256 := by omega
      have RL := hide hrl
      have RG := hide hrg
      have NX := hide hnext
      obtain ⟨W1, rfl⟩ : ∃ W1, W1 = wr := ⟨_, rfl⟩
      clear hxx hr hrl hrg hnext hex
      go_wp2
      go_loopw [8, 19] (fun vr vi wr2 => ∃ (j : Nat), j ≤ ys.length ∧ vi = .int .i64 j ∧ Own wr2 W1.heap.size vr (r.take j) ∧ Below W1.heap.size W1 wr2) (fun _ vi _ => ys.length - (intOf vi).toNat)
      case atStart => exact ⟨0, Nat.zero_le _, rfl, World.ownsRow_nil _ _ _ _, Below.refl _ _⟩
      case round =>
        obtain ⟨j, hj, rfl, ho, hb2⟩ := hrel
        have O := hide ho
        have B2 := hide hb2
        clear ho hb2
        by_cases hltj : j < ys.length
        · have hltj' : (j : Int) < (ys.length : Int) := by omega
          obtain ⟨yb, yoff, yu, rfl, hyc, hyu⟩ := ((RY.out.below B.out).below B2.out).row j hltj
          obtain ⟨y, hyy⟩ : ∃ y, y = ys.getD j 0 := ⟨_, rfl⟩
          rw [← hyy] at hyu
          subst hyu
          have hey := Gf.elOk_tests (Gf.all_of_getD.1 EY.out j hltj)
          rw [← hyy] at hey
          have hg := RG.out j hltj
          rw [← hyy] at hg
          obtain ⟨Y, rfl⟩ := Int.eq_ofNat_of_zero_le hey.1
          have hY : Y < 256 := by omega
          simp only [Int.toNat_natCast] at hg
          have hxor : bits .xor .i64 ((A : Nat) : Int) ((Y : Nat) : Int) = ((A ^^^ Y : Nat) : Int) := Gf.i64_xor _ _ (by omega) (by omega)
          have hxl : A ^^^ Y < 256 := Nat.xor_lt_two_pow (n := 8) hA hY
          obtain ⟨z, hz⟩ : ∃ z, z = Gf.inv (A ^^^ Y) := ⟨_, rfl⟩
          rw [← hz] at hg
          have CD : Hid (∀ w', Calls Tryd.prog 127 #[.int .i64 1, .int .i64 (bits .xor .i64 ((A : Nat) : Int) ((Y : Nat) : Int))] w' fun e w'' => e = .returned (.int .i64 ((z : Nat) : Int)) ∧ w' = w'') := by
            intro w'
            rw [hxor]
            refine (Gf.l1Div_calls 1 _ w' (by omega) (by omega) (by omega) (by omega)).mono ?_
            rintro e w'' ⟨rfl, rfl⟩
            refine ⟨?_, rfl⟩
            have e1 : Gf.mul (Int.toNat 1) (Gf.inv (Int.toNat ((A ^^^ Y : Nat) : Int))) = z := by
              rw [Int.toNat_natCast, hz]
              exact Gf.one_mul _ (Gf.inv_lt _)
            rw [e1]
          have HG := hide hg
          have hl2 : (r.take j).length = j := by rw [List.length_take, RL.out]; omega
          have HL2 := hide hl2
          clear hyy hey hg hxor hxl hz hl2
          go_wp2_with fail
          refine (CD.out _).mono ?_
          rintro e w2 ⟨rfl, rfl⟩
          have O2 := hide (O.out.alloc (.cells #[.int .i64 ((z : Nat) : Int)] 3))
          go_wp2_with (at_builtin; refine wpList_append_rd rfl _ _ rfl W1.heap.size _ (r.take j).length (r.take j) [((z : Nat) : Int)] rfl O2.out _ rfl rd_single (by rw [HL2.out]; simp; omega) (by have := B2.out.size; simp; omega) ?_)
          intro v' w3 ho3 hg3
          have hb3 : Below W1.heap.size W1 w3 := (B2.out.alloc B2.out.size _).grown hg3 (by have := B2.out.size; simp; omega) (fun i hi => (O.out.lt i hi).1)
          have e : r.take j ++ [((z : Nat) : Int)] = r.take (j + 1) := by rw [take_snoc r 0 j (by rw [RL.out]; exact hltj), HG.out]
          rw [e] at ho3
          have O3 := hide ho3
          have B3 := hide hb3
          clear ho3 hg3 hb3 e
          go_wp2
          go_roundw
          case rel => exact ⟨j + 1, by omega, by go_num, O3.out, B3.out⟩
          case measure => simp [intOf]; omega
        · obtain rfl : j = ys.length := by omega
          have ho := O.out
          rw [← RL.out, List.take_of_length_le (Nat.le_refl _)] at ho
          obtain ⟨ra, rn, rc, rfl⟩ := ho.shape
          have OO := hide ho
          clear ho O
          go_wp2_with (at_builtin; refine wpList_append_row rfl _ _ rfl w.heap.size W1.heap.size _ vs ((cauM xs ys).take k) rfl M.out (B2.out.alloc B2.out.size _) _ r (OO.out.below ((Below.refl _ _).alloc (Nat.le_refl _) _)) (Nat.le_refl _) B.out.size _ rfl (World.cell?_alloc_at _ _ _ _ (by simp)) (by simp; omega) ?_)
          intro v2 w2 hM2 hB2
          rw [NX.out] at hM2
          have M2 := hide hM2
          have B3 := hide hB2
          clear hM2 hB2
          go_wp2
          go_roundw
          case rel => exact ⟨k + 1, _, by omega, by go_num, M2.out, B.out.trans B3.out⟩
          case measure => simp [intOf]; omega
    · obtain rfl : k = xs.length := by omega
      go_wp2
      go_ret
      have hm := M.out
      rw [List.take_of_length_le (by rw [cauM_length]; exact Nat.le_refl _)] at hm
      exact ⟨_, rfl, ⟨_, hm⟩, B.out⟩
end Go.Proofs.YtogopakmebiomaaDoor

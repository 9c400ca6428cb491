/-
  Which lists are words of a code, their syndromes, and whether these are noughts: the program's functions and its model's, call by call. The program's table of rests must hold its seven numbers where the program's own functions are called.
-/
import Derived.Test.YtogopakmebiomaaDoorGen
import Derived.Test.YtogopakmebiomaaDoorGood
namespace Go.Proofs.YtogopakmebiomaaDoor
open Go.RowKit

namespace Gf
def wdOk (xs : List Int) (t : Int) : Bool := wOk t && decide (2 * t < (xs.length : Int)) && decide (xs.length ≤ 24) && xs.all elOk
theorem wdOk_yes {xs : List Int} {t : Int} (h : wdOk xs t = true) : wOk t = true ∧ 2 * t < (xs.length : Int) ∧ xs.length ≤ 24 ∧ xs.all elOk = true := by
  simp only [wdOk, Bool.and_eq_true, decide_eq_true_eq] at h
  exact ⟨h.1.1.1, h.1.1.2, h.1.2, h.2⟩
theorem wdOk_mk {xs : List Int} {t : Int} (h1 : wOk t = true) (h2 : 2 * t < (xs.length : Int)) (h3 : xs.length ≤ 24) (h4 : xs.all elOk = true) : wdOk xs t = true := by
  simp only [wdOk, Bool.and_eq_true, decide_eq_true_eq]
  exact ⟨⟨⟨h1, h2⟩, h3⟩, h4⟩
theorem wdOk_no {xs : List Int} {t : Int} (h : ¬ (wOk t = true ∧ 2 * t < (xs.length : Int) ∧ xs.length ≤ 24 ∧ xs.all elOk = true)) : wdOk xs t = false := by
  cases hh : wdOk xs t with
  | false => rfl
  | true => exact absurd (wdOk_yes hh) h
/-- The first n syndromes. -/
def synI (xs : List Int) (n : Nat) : List Int := (List.range n).map fun k : Nat => ((ev (pow 2 k) xs : Nat) : Int)
theorem synI_length (xs : List Int) (n : Nat) : (synI xs n).length = n := by simp [synI]
theorem synI_get (xs : List Int) (n k : Nat) (h : k < n) : (synI xs n).getD k 0 = ((ev (pow 2 k) xs : Nat) : Int) := by simp [synI, h]
def synR (xs : List Int) (t : Int) : List Int × Bool := if wdOk xs t = true then (synI xs (2 * t.toNat), true) else ([], false)
theorem synR_yes {xs : List Int} {t : Int} (h : wdOk xs t = true) : synR xs t = (synI xs (2 * t.toNat), true) := if_pos h
theorem synR_no {xs : List Int} {t : Int} (h : wdOk xs t = false) : synR xs t = ([], false) := if_neg (by rw [h]; decide)
theorem synR_len (xs : List Int) (t : Int) : (synR xs t).1.length ≤ 1048576 := by
  unfold synR
  split
  next h => have := wOk_iff.1 (wdOk_yes h).1; show (synI xs _).length ≤ _; rw [synI_length]; omega
  next => show 0 ≤ _; omega
theorem all_mem {xs : List Int} (h : xs.all elOk = true) : ∀ c ∈ xs, 0 ≤ c ∧ c ≤ 255 := fun c hc => elOk_iff.1 (List.all_eq_true.1 h c hc)
theorem all_get {xs : List Int} (h : xs.all elOk = true) : ∀ i, i < xs.length → 0 ≤ xs.getD i 0 ∧ xs.getD i 0 ≤ 255 := fun i hi => elOk_iff.1 (all_of_getD.1 h i hi)
theorem cut_good {xs : List Int} (h : xs.all elOk = true) (hl : xs.length ≤ 40) : goodP (cutL xs) = true := by
  have := goodP_cut (nat_ltp (all_mem h)) (by rw [nat_length]; exact hl)
  rwa [ci_natp (all_mem h)] at this
theorem ev_cutL {xs : List Int} {x : Nat} (hx : x < 256) (h : xs.all elOk = true) : ev x (cutL xs) = ev x xs := by
  have e := ci_natp (all_mem h)
  have := ev_cut hx (nat_ltp (all_mem h))
  rw [e] at this
  rw [this, ← ev_ci, e]

set_option maxRecDepth 100000 in
set_option maxHeartbeats 1600000 in
theorem syndromesOf_no (v : Value) (xs : List Int) (t : Int) (w : World) (h : Rd w v xs) (hw : wdOk xs t = false) :
    Calls Tryd.prog 22 #[v, .int .i64 t] w fun e w' => e = .returned (.tuple #[.slice none 0 0, .bool false]) ∧ w = w' := by
  have R := hide h
  obtain ⟨a, cap, rfl, _, _, _⟩ := h
  cases h1 : wOk t with
  | false =>
    have G := hide h1
    clear h1 hw
    go_enter Tryd.func22, Tryd.ntmps22
    go_wp2_with fail
    refine (isWrong_calls t _).mono ?_
    rw [G.out]
    rintro e w' ⟨rfl, rfl⟩
    go_wp2
    go_ret2
    exact ⟨rfl, rfl⟩
  | true =>
    obtain ⟨q1, q3⟩ := wOk_iff.1 h1
    obtain ⟨n, rfl⟩ := Int.eq_ofNat_of_zero_le (a := t) (by omega)
    have G := hide h1
    by_cases h2 : 2 * n < xs.length
    case neg =>
      have h2' : (xs.length : Int) ≤ ((2 * n : Nat) : Int) := by omega
      clear h1 hw h2
      go_enter Tryd.func22, Tryd.ntmps22
      go_wp2_with fail
      refine (isWrong_calls _ _).mono ?_
      rw [G.out]
      rintro e w' ⟨rfl, rfl⟩
      go_wp2_with fail
      refine (checksOf_calls n _ (by omega)).mono ?_
      rintro e w' ⟨rfl, rfl⟩
      go_wp2
      go_ret2
      exact ⟨rfl, rfl⟩
    have h2' : ¬ (xs.length : Int) ≤ ((2 * n : Nat) : Int) := by omega
    by_cases h3 : xs.length ≤ 24
    case neg =>
      have h3' : (24 : Int) < (xs.length : Int) := by omega
      clear h1 hw h2 h3
      go_enter Tryd.func22, Tryd.ntmps22
      go_wp2_with fail
      refine (isWrong_calls _ _).mono ?_
      rw [G.out]
      rintro e w' ⟨rfl, rfl⟩
      go_wp2_with fail
      refine (checksOf_calls n _ (by omega)).mono ?_
      rintro e w' ⟨rfl, rfl⟩
      go_wp2
      go_ret2
      exact ⟨rfl, rfl⟩
    have h3' : ¬ (24 : Int) < (xs.length : Int) := by omega
    have h4 : xs.all elOk = false := by
      cases hh : xs.all elOk with
      | false => rfl
      | true => rw [wdOk_mk h1 (by omega) h3 hh] at hw; cases hw
    have E := hide h4
    clear h1 hw h2 h3 h4
    go_enter Tryd.func22, Tryd.ntmps22
    go_wp2_with fail
    refine (isWrong_calls _ _).mono ?_
    rw [G.out]
    rintro e w' ⟨rfl, rfl⟩
    go_wp2_with fail
    refine (checksOf_calls n _ (by omega)).mono ?_
    rintro e w' ⟨rfl, rfl⟩
    go_wp2_with fail
    refine (areElements_calls _ xs _ R.out).mono ?_
    rw [E.out]
    rintro e w' ⟨rfl, rfl⟩
    go_wp2
    go_ret2
    exact ⟨rfl, rfl⟩

set_option maxRecDepth 100000 in
set_option maxHeartbeats 3200000 in
theorem syndromesOf_calls (v : Value) (xs : List Int) (t : Int) (w : World) (hT : Tab w) (h : Rd w v xs) :
    Calls Tryd.prog 22 #[v, .int .i64 t] w fun e w' => ∃ v', e = .returned (.tuple #[v', .bool (synR xs t).2]) ∧ Own w' w.heap.size v' (synR xs t).1 ∧ Below w.heap.size w w' := by
  cases hw : wdOk xs t with
  | false =>
    rw [synR_no hw]
    refine (syndromesOf_no v xs t w h hw).mono ?_
    rintro e w' ⟨rfl, rfl⟩
    exact ⟨_, rfl, own_nil _ _, Below.refl _ _⟩
  | true =>
    rw [synR_yes hw]
    have T := hide hT
    have R := hide h
    obtain ⟨a, cap, rfl, _, _, _⟩ := h
    obtain ⟨h1, h2, h3, h4⟩ := wdOk_yes hw
    obtain ⟨q1, q3⟩ := wOk_iff.1 h1
    obtain ⟨n, rfl⟩ := Int.eq_ofNat_of_zero_le (a := t) (by omega)
    rw [Int.toNat_natCast]
    have G := hide h1
    have E := hide h4
    have h2' : ¬ (xs.length : Int) ≤ ((2 * n : Nat) : Int) := by omega
    have h3' : ¬ (24 : Int) < (xs.length : Int) := by omega
    obtain ⟨S, hS⟩ : ∃ S, S = synI xs (2 * n) := ⟨_, rfl⟩
    rw [← hS]
    have HS := hide hS
    clear hw hT h1 h2 h4 hS
    go_enter Tryd.func22, Tryd.ntmps22
    go_wp2_with fail
    refine (isWrong_calls _ _).mono ?_
    rw [G.out]
    rintro e w' ⟨rfl, rfl⟩
    go_wp2_with fail
    refine (checksOf_calls n _ (by omega)).mono ?_
    rintro e w' ⟨rfl, rfl⟩
    go_wp2_with fail
    refine (areElements_calls _ xs _ R.out).mono ?_
    rw [E.out]
    rintro e w' ⟨rfl, rfl⟩
    go_wp2_with fail
    refine (without_calls _ xs _ R.out (by omega)).mono ?_
    rintro e w0 ⟨pv, rfl, ho0, hb0⟩
    have P0 := hide ho0.rd
    have B0 := hide hb0
    clear ho0 hb0
    go_wp2_with fail
    refine (checksOf_calls n _ (by omega)).mono ?_
    rintro e w' ⟨rfl, rfl⟩
    obtain ⟨N, hN⟩ : ∃ N, N = 2 * n := ⟨_, rfl⟩
    rw [← hN]
    have hN6 : N ≤ 6 := by omega
    have HSl : Hid (S.length = N) := by rw [HS.out, hN]; exact synI_length _ _
    have HSg : Hid (∀ k, k < N → S.getD k 0 = ((ev (pow 2 k) xs : Nat) : Int)) := by rw [HS.out, hN]; exact synI_get xs (2 * n)
    clear hN h2'
    have hsz0 := B0.out.size
    go_wp2_with (at_make; refine wpList_make_ints rfl _ _ rfl w0.heap.size _ _ N rfl rfl (by omega) (by omega) (by omega) (Nat.le_refl _) ?_)
    intro w1 hown1 hg1
    have O1 : Hid (w1.ownsRow w0.heap.size 3 1 (.slice (some ⟨w0.heap.size, 0, none⟩) N N) N ((cpTo S 0).map (Value.int .i64))) := by
      rw [cpTo_zero, HSl.out]
      have := hown1
      unfold Own at this
      rwa [List.length_replicate] at this
    have B1 := hide ((Below.refl w0.heap.size w0).grown hg1 (Nat.le_refl _) (fun k h => by cases h))
    have CS : Hid (∀ k, k ≤ N → (cpTo S k).length = N) := fun k hk => by rw [cpTo_length S k (by rw [HSl.out]; exact hk), HSl.out]
    clear hown1 hg1
    go_wp2
    go_loopw [36] (fun vk wr => ∃ k : Nat, k ≤ N ∧ vk = .int .i64 k ∧ wr.ownsRow w0.heap.size 3 1 (.slice (some ⟨w0.heap.size, 0, none⟩) N N) N ((cpTo S k).map (Value.int .i64)) ∧ Below w0.heap.size w0 wr) (fun vk _ => N - (intOf vk).toNat)
    case atStart => exact ⟨0, Nat.zero_le _, rfl, O1.out, B1.out⟩
    case round =>
      obtain ⟨k, hk, rfl, ho, hb⟩ := hrel
      have O := hide ho
      have B := hide hb
      clear ho hb
      by_cases hlt : k < N
      · have hlt' : (k : Int) < (N : Int) := by omega
        go_wp2_with fail
        refine (powE_calls 2 k _ ((T.out.below B0.out).below B.out) (by omega) (by omega) (by omega) (by omega)).mono ?_
        rintro e w' ⟨rfl, rfl⟩
        rw [Int.toNat_natCast]
        obtain ⟨x, hx⟩ : ∃ x, x = pow 2 k := ⟨_, rfl⟩
        rw [show pow (Int.toNat 2) k = x from hx.symm]
        have hx256 : x < 256 := by rw [hx]; exact pow_lt _ _
        obtain ⟨y, hy⟩ : ∃ y, y = ev x xs := ⟨_, rfl⟩
        have Y : Hid (S.getD k 0 = ((y : Nat) : Int)) := by rw [hy, hx]; exact HSg.out k hlt
        have E2 : Hid (ev x (cutL xs) = y) := by rw [hy]; exact ev_cutL hx256 E.out
        clear hx hy
        go_wp2_with fail
        refine (evalGf_good _ (cutL xs) x _ ((T.out.below B0.out).below B.out) (P0.out.below B.out) (cut_good E.out (by omega)) (by omega) (by omega)).mono ?_
        rw [Int.toNat_natCast, E2.out]
        rintro e w2 ⟨rfl, hb2⟩
        have hlt0 : w0.heap.size < wr.heap.size := (World.ownsRow.lt O.out w0.heap.size rfl).2
        have O2 : Hid (w2.ownsRow w0.heap.size 3 1 (.slice (some ⟨w0.heap.size, 0, none⟩) N N) N ((cpTo S k).map (Value.int .i64))) := by
          refine O.out.kept (row := none) ⟨hb2.os, hb2.tape, hb2.output, hb2.size, fun k hk _ => hb2.block k hk⟩ (.inr (by simp [Value.ownBlock]))
        have B2 := hide (B.out.trans (hb2.mono B.out.size))
        have hc2 : w2.frozen? ⟨w0.heap.size, k, none⟩ = false := O2.out.frozenAt k
        obtain ⟨old, hc3⟩ : ∃ old, w2.cell? ⟨w0.heap.size, k, none⟩ = some old := by
          rw [O2.out.cellAt k (by omega)]
          have := CS.out k hk
          exact ⟨_, List.getElem?_eq_getElem (by simp; omega)⟩
        have K := hide (O2.out.stored k (.int .i64 (y : Nat)))
        clear hb2 O B
        go_wp2
        go_roundw
        case rel =>
          refine ⟨k + 1, by omega, by go_num, ?_, B2.out.setCell (Nat.le_refl _) _⟩
          have := K.out.1
          rw [← List.map_set, ← Y.out, cpTo_step S k (by rw [HSl.out]; exact hlt)] at this
          rw [← Y.out]
          exact this
        case measure => simp [intOf]; omega
      · obtain rfl : k = N := by omega
        go_wp2
        go_ret2
        refine ⟨_, rfl, ?_, B0.out.trans (B.out.mono hsz0)⟩
        have hend : cpTo S k = S := by have := cpTo_end S; rwa [HSl.out] at this
        have := O.out
        rw [hend] at this
        show World.ownsRow _ _ _ _ _ S.length _
        rw [HSl.out]
        refine ⟨this.1, ?_⟩
        rcases this.2 with hn | ⟨g, cap, cur, hv, hb', rest⟩
        · exact .inl hn
        · exact .inr ⟨g, cap, cur, hv, Nat.le_trans hsz0 hb', rest⟩

set_option maxRecDepth 100000 in
set_option maxHeartbeats 1600000 in
theorem l4Word_calls (v : Value) (xs : List Int) (t : Int) (w : World) (h : Rd w v xs) :
    Calls Tryd.prog 76 #[v, .int .i64 t] w fun e w' => e = .returned (.bool (wdOk xs t)) ∧ w = w' := by
  have R := hide h
  obtain ⟨a, cap, rfl, g1, g2, _⟩ := h
  have hm : xs.length ≤ maxLen := by omega
  unfold maxLen at hm
  clear g1 g2
  cases h1 : wOk t with
  | false =>
    rw [wdOk_no (by rw [h1]; simp)]
    have G := hide h1
    clear h1
    go_enter Tryd.func76, Tryd.ntmps76
    go_wp2_with fail
    refine (l4Wrong_calls _ _).mono ?_
    rw [G.out]
    rintro e w' ⟨rfl, rfl⟩
    go_wp2
    go_ret
    exact ⟨rfl, rfl⟩
  | true =>
    obtain ⟨q1, q3⟩ := wOk_iff.1 h1
    have G := hide h1
    by_cases h2 : 2 * t + 1 ≤ (xs.length : Int) ∧ (xs.length : Int) ≤ 24
    · have e : wdOk xs t = xs.all elOk := by
        simp only [wdOk, h1, Bool.true_and, decide_eq_true (show 2 * t < (xs.length : Int) by omega), decide_eq_true (show xs.length ≤ 24 by omega)]
      rw [e]
      have D := hide (decide_eq_true h2)
      clear h1 e h2
      go_enter Tryd.func76, Tryd.ntmps76
      go_wp2_with fail
      refine (l4Wrong_calls _ _).mono ?_
      rw [G.out]
      rintro e w' ⟨rfl, rfl⟩
      go_wp2_with fail
      refine (l1In_calls _ _ _ _).mono ?_
      rw [D.out]
      rintro e w' ⟨rfl, rfl⟩
      go_wp2_with fail
      refine (l1All_calls _ xs _ R.out).mono ?_
      rintro e w' ⟨rfl, rfl⟩
      go_wp2
      go_ret
      exact ⟨rfl, rfl⟩
    · rw [wdOk_no (by rw [h1]; omega)]
      have D := hide (decide_eq_false h2)
      clear h1 h2
      go_enter Tryd.func76, Tryd.ntmps76
      go_wp2_with fail
      refine (l4Wrong_calls _ _).mono ?_
      rw [G.out]
      rintro e w' ⟨rfl, rfl⟩
      go_wp2_with fail
      refine (l1In_calls _ _ _ _).mono ?_
      rw [D.out]
      rintro e w' ⟨rfl, rfl⟩
      go_wp2
      go_ret
      exact ⟨rfl, rfl⟩

theorem rd_single2 {w : World} {z : Int} : Rd (w.alloc (.cells #[.int .i64 z] 3)) (.slice (some ⟨w.heap.size, 0, none⟩) 1 1) [z] := by
  refine ⟨_, 1, rfl, Nat.le_refl _, ⟨by unfold maxLen; omega, fun h => by cases h⟩, .inr ⟨_, 0, rfl, by simp, fun i hi => ?_⟩⟩
  simp at hi
  subst hi
  exact World.cell?_alloc_at _ _ _ _ (by simp)
theorem take_snoc2 (l : List Int) (k : Nat) (h : k < l.length) : l.take (k + 1) = l.take k ++ [l.getD k 0] := by
  rw [List.take_succ_eq_append_getElem h, List.getD_eq_getElem?_getD, List.getElem?_eq_getElem h, Option.getD_some]
set_option maxRecDepth 100000 in
set_option maxHeartbeats 1600000 in
theorem l4Syndromes_calls (v : Value) (xs : List Int) (n : Nat) (w : World) (h : Rd w v xs) (he : xs.all elOk = true) (hn : n ≤ 3) :
    Calls Tryd.prog 77 #[v, .int .i64 n] w fun e w' => ∃ v', e = .returned v' ∧ Own w' w.heap.size v' (synI xs (2 * n)) ∧ Below w.heap.size w w' := by
  have R := hide h
  have E := hide he
  obtain ⟨S, hS⟩ : ∃ S, S = synI xs (2 * n) := ⟨_, rfl⟩
  rw [← hS]
  have HSl : Hid (S.length = 2 * n) := by rw [hS]; exact synI_length _ _
  have HSg : Hid (∀ k, k < 2 * n → S.getD k 0 = ((ev (pow 2 k) xs : Nat) : Int)) := by rw [hS]; exact synI_get xs (2 * n)
  clear h he hS
  go_enter Tryd.func77, Tryd.ntmps77
  go_wp2
  go_loopw [5, 6] (fun vo vk wr => ∃ k : Nat, k ≤ 2 * n ∧ vk = .int .i64 k ∧ Own wr w.heap.size vo (S.take k) ∧ Below w.heap.size w wr) (fun _ vk _ => 2 * n - (intOf vk).toNat)
  case atStart => exact ⟨0, Nat.zero_le _, rfl, World.ownsRow_nil _ _ _ _, Below.refl _ _⟩
  case round =>
    obtain ⟨k, hk, rfl, ho, hb⟩ := hrel
    have O := hide ho
    have B := hide hb
    clear ho hb
    by_cases hlt : k < 2 * n
    · have hlt' : (k : Int) < 2 * (n : Int) := by omega
      go_wp2_with fail
      refine (l1Pow_calls 2 k _ (by omega) (by omega) (by omega) (by omega)).mono ?_
      rintro e w' ⟨rfl, rfl⟩
      rw [Int.toNat_natCast]
      obtain ⟨x, hx⟩ : ∃ x, x = pow 2 k := ⟨_, rfl⟩
      rw [show pow (Int.toNat 2) k = x from hx.symm]
      have hx256 : x < 256 := by rw [hx]; exact pow_lt _ _
      obtain ⟨y, hy⟩ : ∃ y, y = ev x xs := ⟨_, rfl⟩
      have Y : Hid (S.getD k 0 = ((y : Nat) : Int)) := by rw [hy, hx]; exact HSg.out k hlt
      have E2 := hide hy
      clear hx hy
      go_wp2_with fail
      refine (l1Eval_calls _ xs x _ (R.out.below B.out) (by omega) (by omega) (all_get E.out)).mono ?_
      rw [Int.toNat_natCast, ← E2.out]
      rintro e w2 ⟨rfl, hb2⟩
      have O2 := hide ((O.out.below hb2).alloc (.cells #[.int .i64 ((y : Nat) : Int)] 3))
      have B2 := hide (B.out.trans (hb2.mono B.out.size))
      have HL2 : Hid ((S.take k).length = k) := by show (S.take k).length = k; rw [List.length_take, HSl.out]; omega
      clear hb2
      go_wp2_with (at_builtin; refine wpList_append_rd rfl _ _ rfl w.heap.size _ (S.take k).length (S.take k) [((y : Nat) : Int)] rfl O2.out _ rfl rd_single2 (by rw [HL2.out]; simp; omega) (by have := B2.out.size; simp; omega) ?_)
      intro v' w3 ho3 hg3
      have hb3 : Below w.heap.size w w3 := (B2.out.alloc B2.out.size _).grown hg3 (by have := B2.out.size; simp; omega) (fun i hi => (O.out.lt i hi).1)
      have e : S.take k ++ [((y : Nat) : Int)] = S.take (k + 1) := by rw [take_snoc2 S k (by rw [HSl.out]; exact hlt), Y.out]
      rw [e] at ho3
      have O3 := hide ho3
      have B3 := hide hb3
      clear ho3 hg3 hb3 e
      go_wp2
      go_roundw
      case rel => exact ⟨k + 1, by omega, by go_num, O3.out, B3.out⟩
      case measure => simp [intOf]; omega
    · obtain rfl : k = 2 * n := by omega
      have hlt' : ¬ ((2 * n : Nat) : Int) < 2 * (n : Int) := by omega
      have ho := O.out
      rw [List.take_of_length_le (by rw [HSl.out]; exact Nat.le_refl _)] at ho
      have O1 := hide ho
      clear ho O
      go_wp2
      go_ret
      exact ⟨_, rfl, O1.out, B.out⟩

set_option maxRecDepth 100000 in
set_option maxHeartbeats 1600000 in
theorem sSyndromesOf_calls (v : Value) (xs : List Int) (t : Int) (w : World) (h : Rd w v xs) :
    Calls Tryd.prog 21 #[v, .int .i64 t] w fun e w' => ∃ v', e = .returned (.tuple #[v', .bool (synR xs t).2]) ∧ Own w' w.heap.size v' (synR xs t).1 ∧ Below w.heap.size w w' := by
  have R := hide h
  clear h
  cases hw : wdOk xs t with
  | false =>
    rw [synR_no hw]
    have G := hide hw
    clear hw
    go_enter Tryd.func21, Tryd.ntmps21
    go_wp2_with fail
    refine (l4Word_calls _ xs _ _ R.out).mono ?_
    rw [G.out]
    rintro e w' ⟨rfl, rfl⟩
    go_wp2
    go_ret2
    exact ⟨_, rfl, own_nil _ _, Below.refl _ _⟩
  | true =>
    rw [synR_yes hw]
    obtain ⟨h1, h2, h3, h4⟩ := wdOk_yes hw
    obtain ⟨q1, q3⟩ := wOk_iff.1 h1
    obtain ⟨n, rfl⟩ := Int.eq_ofNat_of_zero_le (a := t) (by omega)
    rw [Int.toNat_natCast]
    have G := hide hw
    have E := hide h4
    clear hw h1 h2 h4
    go_enter Tryd.func21, Tryd.ntmps21
    go_wp2_with fail
    refine (l4Word_calls _ xs _ _ R.out).mono ?_
    rw [G.out]
    rintro e w' ⟨rfl, rfl⟩
    go_wp2_with fail
    refine (l4Syndromes_calls _ xs n _ R.out E.out (by omega)).mono ?_
    rintro e w1 ⟨v1, rfl, ho1, hb1⟩
    have O1 := hide ho1
    have B1 := hide hb1
    clear ho1 hb1
    go_wp2
    go_ret2
    exact ⟨_, rfl, O1.out, B1.out⟩
end Gf
end Go.Proofs.YtogopakmebiomaaDoor

/-
  Which lists are words of a code, their syndromes, and whether these are noughts: the program's functions and its model's, call by call. The program's table of rests must hold its seven numbers where the program's own functions are called. What a law holds in its hands: slices of integers of its own, no two of one block, beside whatever was there and stays as it was; what each kind of step does to that. No condition. The division of two polynomials: the program's DivPoly and its model's at every argument that can be read, call by call: both answer the same two lists, each of new memory of its own, and the same word. The program's table of rests must hold its seven numbers where the program's own function is called. The model's division of two polynomials at every argument that can be read, call by call; with the program's, at every argument. The program's table of rests must hold its seven numbers where the program's own function is called. The division of two polynomials at every argument that can be read: the program's and its model's, call by call. The program's table of rests must hold its seven numbers where the program's own function is called.
-/
import Derived.Test.YtogopakmebiomaaDoorWordsB8
import Derived.Test.YtogopakmebiomaaDoorWordsB4
import Derived.Test.YtogopakmebiomaaDoorWordsB2
import Derived.Test.YtogopakmebiomaaDoorWordsB3
namespace Go.Proofs.YtogopakmebiomaaDoor
open Go.RowKit

namespace Gf
def wdOk (xs : List Int) (t : Int) : Bool := wOk t && decide (2 * t < (xs.length : Int)) && decide (xs.length ≤ 24) && xs.all elOk
theorem wdOk_yes {xs : List Int} {t : Int} (h : wdOk xs t = true) : wOk t = true ∧ 2 * t < (xs.length : Int) ∧ xs.length ≤ 24 ∧ xs.all elOk = true := by
  simp only [wdOk, Bool.and_eq_true, decide_eq_true_eq] at h
  exact ⟨h.1.1.1, h.1.1.2, h.1.2, h.2⟩
theorem wdOk_mk {xs : List Int} {t : Int} (h1 : wOk t = true) (h2 : 2 * t < (xs.length : Int)) (h3 : xs.length ≤ 24) (h4 : xs.all elOk = true) : wdOk xs t = true := by
  simp only [wdOk, Bool.and_eq_true, decide_eq_true_eq]
  exact ⟨⟨⟨h1, h2⟩, h3⟩, h4⟩
theorem wdOk_no {xs : List Int} {t : Int} (h : ¬ (wOk t = true ∧ 2 * t < (xs.length : Int) ∧ xs.length ≤ 24 ∧ xs.all elOk = true)) : wdOk xs t = false := by
  cases hh : wdOk xs t with
  | false => rfl
  | true => exact absurd (wdOk_yes hh) h
/-- The first n syndromes. -/
def synI (xs : List Int) (n : Nat) : List Int := (List.range n).map fun k : Nat => ((ev (pow 2 k) xs : Nat) : Int)
theorem synI_length (xs : List Int) (n : Nat) : (synI xs n).length = n := by simp [synI]
theorem synI_get (xs : List Int) (n k : Nat) (h : k < n) : (synI xs n).getD k 0 = ((ev (pow 2 k) xs : Nat) : Int) := by simp [synI, h]
def synR (xs : List Int) (t : Int) : List Int × Bool := if wdOk xs t = true then (synI xs (2 * t.toNat), true) else ([], false)
theorem synR_yes {xs : List Int} {t : Int} (h : wdOk xs t = true) : synR xs t = (synI xs (2 * t.toNat), true) := if_pos h
theorem synR_no {xs : List Int} {t : Int} (h : wdOk xs t = false) : synR xs t = ([], false) := if_neg (by rw [h]; decide)
theorem synR_len (xs : List Int) (t : Int) : (synR xs t).1.length ≤ 1048576 := by
  unfold synR
  split
  next h => have := wOk_iff.1 (wdOk_yes h).1; show (synI xs _).length ≤ _; rw [synI_length]; omega
  next => show 0 ≤ _; omega
theorem all_mem {xs : List Int} (h : xs.all elOk = true) : ∀ c ∈ xs, 0 ≤ c ∧ c ≤ 255 := fun c hc => elOk_iff.1 (List.all_eq_true.1 h c hc)
theorem all_get {xs : List Int} (h : xs.all elOk = true) : ∀ i, i < xs.length → 0 ≤ xs.getD i 0 ∧ xs.getD i 0 ≤ 255 := fun i hi => elOk_iff.1 (all_of_getD.1 h i hi)
theorem cut_good {xs : List Int} (h : xs.all elOk = true) (hl : xs.length ≤ 40) : goodP (cutL xs) = true := by
  have := goodP_cut (nat_ltp (all_mem h)) (by rw [nat_length]; exact hl)
  rwa [ci_natp (all_mem h)] at this
theorem ev_cutL {xs : List Int} {x : Nat} (hx : x < 256) (h : xs.all elOk = true) : ev x (cutL xs) = ev x xs := by
  have e := ci_natp (all_mem h)
  have := ev_cut hx (nat_ltp (all_mem h))
  rw [e] at this
  rw [this, ← ev_ci, e]

set_option maxRecDepth 100000 in
set_option maxHeartbeats 1600000 in
theorem syndromesOf_no (v : Value) (xs : List Int) (t : Int) (w : World) (h : Rd w v xs) (hw : wdOk xs t = false) :
    Calls Tryd.prog 22 #[v, .int .i64 t] w fun e w' => e = .returned (.tuple #[.slice none 0 0, .bool false]) ∧ w = w' := by
  have R := hide h
  obtain ⟨a, cap, rfl, _, _, _⟩ := h
  cases h1 : wOk t with
  | false =>
    have G := hide h1
    clear h1 hw
    go_enter Tryd.func22, Tryd.ntmps22
    go_wp2_with fail
    refine (isWrong_calls t _).mono ?_
    rw [G.out]
    rintro e w' ⟨rfl, rfl⟩
    go_wp2
    go_ret2
    exact ⟨rfl, rfl⟩
  | true =>
    obtain ⟨q1, q3⟩ := wOk_iff.1 h1
    obtain ⟨n, rfl⟩ := Int.eq_ofNat_of_zero_le (a := t) (by omega)
    have G := hide h1
    by_cases h2 : 2 * n < xs.length
    case neg =>
      have h2' : (xs.length : Int) ≤ ((2 * n : Nat) : Int) := by omega
      clear h1 hw h2
      go_enter Tryd.func22, Tryd.ntmps22
      go_wp2_with fail
      refine (isWrong_calls _ _).mono ?_
      rw [G.out]
      rintro e w' ⟨rfl, rfl⟩
      go_wp2_with fail
      refine (checksOf_calls n _ (by omega)).mono ?_
      rintro e w' ⟨rfl, rfl⟩
      go_wp2
      go_ret2
      exact ⟨rfl, rfl⟩
    have h2' : ¬ (xs.length : Int) ≤ ((2 * n : Nat) : Int) := by omega
    by_cases h3 : xs.length ≤ 24
    case neg =>
      have h3' : (24 : Int) < (xs.length : Int) := by omega
      clear h1 hw h2 h3
      go_enter Tryd.func22, Tryd.ntmps22
      go_wp2_with fail
      refine (isWrong_calls _ _).mono ?_
      rw [G.out]
      rintro e w' ⟨rfl, rfl⟩
      go_wp2_with fail
      refine (checksOf_calls n _ (by omega)).mono ?_
      rintro e w' ⟨rfl, rfl⟩
      go_wp2
      go_ret2
      exact ⟨rfl, rfl⟩
    have h3' : ¬ (24 : Int) < (xs.length : Int) := by omega
    have h4 : xs.all elOk = false := by
      cases hh : xs.all elOk with
      | false => rfl
      | true => rw [wdOk_mk h1 (by omega) h3 hh] at hw; cases hw
    have E := hide h4
    clear h1 hw h2 h3 h4
    go_enter Tryd.func22, Tryd.ntmps22
    go_wp2_with fail
    refine (isWrong_calls _ _).mono ?_
    rw [G.out]
    rintro e w' ⟨rfl, rfl⟩
    go_wp2_with fail
    refine (checksOf_calls n _ (by omega)).mono ?_
    rintro e w' ⟨rfl, rfl⟩
    go_wp2_with fail
    refine (areElements_calls _ xs _ R.out).mono ?_
    rw [E.out]
    rintro e w' ⟨rfl, rfl⟩
    go_wp2
    go_ret2
    exact ⟨rfl, rfl⟩

set_option maxRecDepth 100000 in
set_option maxHeartbeats 3200000 in
theorem syndromesOf_calls (v : Value) (xs : List Int) (t : Int) (w : World) (hT : Tab w) (h : Rd w v xs) :
    Calls Tryd.prog 22 #[v, .int .i64 t] w fun e w' => ∃ v', e = .returned (.tuple #[v', .bool (synR xs t).2]) ∧ Own w' w.heap.size v' (synR xs t).1 ∧ Below w.heap.size w w' := by
  cases hw : wdOk xs t with
  | false =>
    rw [synR_no hw]
    refine (syndromesOf_no v xs t w h hw).mono ?_
    rintro e w' ⟨rfl, rfl⟩
    exact ⟨_, rfl, own_nil _ _, Below.refl _ _⟩
  | true =>
    rw [synR_yes hw]
    have T := hide hT
    have R := hide h
    obtain ⟨a, cap, rfl, _, _, _⟩ := h
    obtain ⟨h1, h2, h3, h4⟩ := wdOk_yes hw
    obtain ⟨q1, q3⟩ := wOk_iff.1 h1
    obtain ⟨n, rfl⟩ := Int.eq_ofNat_of_zero_le (a := t) (by omega)
    rw [Int.toNat_natCast]
    have G := hide h1
    have E := hide h4
    have h2' : ¬ (xs.length : Int) ≤ ((2 * n : Nat) : Int) := by omega
    have h3' : ¬ (24 : Int) < (xs.length : Int) := by omega
    obtain ⟨S, hS⟩ : ∃ S, S = synI xs (2 * n) := ⟨_, rfl⟩
    rw [← hS]
    have HS := hide hS
    clear hw hT h1 h2 h4 hS
    go_enter Tryd.func22, Tryd.ntmps22
    go_wp2_with fail
    refine (isWrong_calls _ _).mono ?_
    rw [G.out]
    rintro e w' ⟨rfl, rfl⟩
    go_wp2_with fail
    refine (checksOf_calls n _ (by omega)).mono ?_
    rintro e w' ⟨rfl, rfl⟩
    go_wp2_with fail
    refine (areElements_calls _ xs _ R.out).mono ?_
    rw [E.out]
    rintro e w' ⟨rfl, rfl⟩
    go_wp2_with fail
    refine (without_calls _ xs _ R.out (by omega)).mono ?_
    rintro e w0 ⟨pv, rfl, ho0, hb0⟩
    have P0 := hide ho0.rd
    have B0 := hide hb0
    clear ho0 hb0
    go_wp2_with fail
    refine (checksOf_calls n _ (by omega)).mono ?_
    rintro e w' ⟨rfl, rfl⟩
    obtain ⟨N, hN⟩ : ∃ N, N = 2 * n := ⟨_, rfl⟩
    rw [← hN]
    have hN6 : N ≤ 6 := by omega
    have HSl : Hid (S.length = N) := by rw [HS.out, hN]; exact synI_length _ _
    have HSg : Hid (∀ k, k < N → S.getD k 0 = ((ev (pow 2 k) xs : Nat) : Int)) := by rw [HS.out, hN]; exact synI_get xs (2 * n)
    clear hN h2'
    have hsz0 := B0.out.size
    go_wp2_with (at_make; refine wpList_make_ints rfl _ _ rfl w0.heap.size _ _ N rfl rfl (by omega) (by omega) (by omega) (Nat.le_refl _) ?_)
    intro w1 hown1 hg1
    have O1 : Hid (w1.ownsRow w0.heap.size 3 1 (.slice (some ⟨w0.heap.size, 0, none⟩) N N) N ((cpTo S 0).map (Value.int .i64))) := by
      rw [cpTo_zero, HSl.out]
      have := hown1
      unfold Own at this
      rwa [List.length_replicate] at this
    have B1 := hide ((Below.refl w0.heap.size w0).grown hg1 (Nat.le_refl _) (fun k h => by cases h))
    have CS : Hid (∀ k, k ≤ N → (cpTo S k).length = N) := fun k hk => by rw [cpTo_length S k (by rw [HSl.out]; exact hk), HSl.out]
    clear hown1 hg1
    go_wp2
    go_loopw [36] (fun vk wr => ∃ k : Nat, k ≤ N ∧ vk = .int .i64 k ∧ wr.ownsRow w0.heap.size 3 1 (.slice (some ⟨w0.heap.size, 0, none⟩) N N) N ((cpTo S k).map (Value.int .i64)) ∧ Below w0.heap.size w0 wr) (fun vk _ => N - (intOf vk).toNat)
    case atStart => exact ⟨0, Nat.zero_le _, rfl, O1.out, B1.out⟩
    case round =>
      obtain ⟨k, hk, rfl, ho, hb⟩ := hrel
      have O := hide ho
      have B := hide hb
      clear ho hb
      by_cases hlt : k < N
      · have hlt' : (k : Int) < (N : Int) := by omega
        go_wp2_with fail
        refine (powE_calls 2 k _ ((T.out.below B0.out).below B.out) (by omega) (by omega) (by omega) (by omega)).mono ?_
        rintro e w' ⟨rfl, rfl⟩
        rw [Int.toNat_natCast]
        obtain ⟨x, hx⟩ : ∃ x, x = pow 2 k := ⟨_, rfl⟩
        rw [show pow (Int.toNat 2) k = x from hx.symm]
        have hx256 : x < 256 := by rw [hx]; exact pow_lt _ _
        obtain ⟨y, hy⟩ : ∃ y, y = ev x xs := ⟨_, rfl⟩
        have Y : Hid (S.getD k 0 = ((y : Nat) : Int)) := by rw [hy, hx]; exact HSg.out k hlt
        have E2 : Hid (ev x (cutL xs) = y) := by rw [hy]; exact ev_cutL hx256 E.out
        clear hx hy
        go_wp2_with fail
        refine (evalGf_good _ (cutL xs) x _ ((T.out.below B0.out).below B.out) (P0.out.below B.out) (cut_good E.out (by omega)) (by omega) (by omega)).mono ?_
        rw [Int.toNat_natCast, E2.out]
        rintro e w2 ⟨rfl, hb2⟩
        have hlt0 : w0.heap.size < wr.heap.size := (World.ownsRow.lt O.out w0.heap.size rfl).2
        have O2 : Hid (w2.ownsRow w0.heap.size 3 1 (.slice (some ⟨w0.heap.size, 0, none⟩) N N) N ((cpTo S k).map (Value.int .i64))) := by
          refine O.out.kept (row := none) ⟨hb2.os, hb2.tape, hb2.output, hb2.size, fun k hk _ => hb2.block k hk⟩ (.inr (by simp [Value.ownBlock]))
        have B2 := hide (B.out.trans (hb2.mono B.out.size))
        have hc2 : w2.frozen? ⟨w0.heap.size, k, none⟩ = false := O2.out.frozenAt k
        obtain ⟨old, hc3⟩ : ∃ old, w2.cell? ⟨w0.heap.size, k, none⟩ = some old := by
          rw [O2.out.cellAt k (by omega)]
          have := CS.out k hk
          exact ⟨_, List.getElem?_eq_getElem (by simp; omega)⟩
        have K := hide (O2.out.stored k (.int .i64 (y : Nat)))
        clear hb2 O B
        go_wp2
        go_roundw
        case rel =>
          refine ⟨k + 1, by omega, by go_num, ?_, B2.out.setCell (Nat.le_refl _) _⟩
          have := K.out.1
          rw [← List.map_set, ← Y.out, cpTo_step S k (by rw [HSl.out]; exact hlt)] at this
          rw [← Y.out]
          exact this
        case measure => simp [intOf]; omega
      · obtain rfl : k = N := by omega
        go_wp2
        go_ret2
        refine ⟨_, rfl, ?_, B0.out.trans (B.out.mono hsz0)⟩
        have hend : cpTo S k = S := by have := cpTo_end S; rwa [HSl.out] at this
        have := O.out
        rw [hend] at this
        show World.ownsRow _ _ _ _ _ S.length _
        rw [HSl.out]
        refine ⟨this.1, ?_⟩
        rcases this.2 with hn | ⟨g, cap, cur, hv, hb', rest⟩
        · exact .inl hn
        · exact .inr ⟨g, cap, cur, hv, Nat.le_trans hsz0 hb', rest⟩

set_option maxRecDepth 100000 in
set_option maxHeartbeats 1600000 in
theorem l4Word_calls (v : Value) (xs : List Int) (t : Int) (w : World) (h : Rd w v xs) :
    Calls Tryd.prog 76 #[v, .int .i64 t] w fun e w' => e = .returned (.bool (wdOk xs t)) ∧ w = w' := by
  have R := hide h
  obtain ⟨a, cap, rfl, g1, g2, _⟩ := h
  have hm : xs.length ≤ maxLen := by omega
  unfold maxLen at hm
  clear g1 g2
  cases h1 : wOk t with
  | false =>
    rw [wdOk_no (by rw [h1]; simp)]
    have G := hide h1
    clear h1
    go_enter Tryd.func76, Tryd.ntmps76
    go_wp2_with fail
    refine (l4Wrong_calls _ _).mono ?_
    rw [G.out]
    rintro e w' ⟨rfl, rfl⟩
    go_wp2
    go_ret
    exact ⟨rfl, rfl⟩
  | true =>
    obtain ⟨q1, q3⟩ := wOk_iff.1 h1
    have G := hide h1
    by_cases h2 : 2 * t + 1 ≤ (xs.length : Int) ∧ (xs.length : Int) ≤ 24
    · have e : wdOk xs t = xs.all elOk := by
        simp only [wdOk, h1, Bool.true_and, decide_eq_true (show 2 * t < (xs.length : Int) by omega), decide_eq_true (show xs.length ≤ 24 by omega)]
      rw [e]
      have D := hide (decide_eq_true h2)
      clear h1 e h2
      go_enter Tryd.func76, Tryd.ntmps76
      go_wp2_with fail
      refine (l4Wrong_calls _ _).mono ?_
      rw [G.out]
      rintro e w' ⟨rfl, rfl⟩
      go_wp2_with fail
      refine (l1In_calls _ _ _ _).mono ?_
      rw [D.out]
      rintro e w' ⟨rfl, rfl⟩
      go_wp2_with fail
      refine (l1All_calls _ xs _ R.out).mono ?_
      rintro e w' ⟨rfl, rfl⟩
      go_wp2
      go_ret
      exact ⟨rfl, rfl⟩
    · rw [wdOk_no (by rw [h1]; omega)]
      have D := hide (decide_eq_false h2)
      clear h1 h2
      go_enter Tryd.func76, Tryd.ntmps76
      go_wp2_with fail
      refine (l4Wrong_calls _ _).mono ?_
      rw [G.out]
      rintro e w' ⟨rfl, rfl⟩
      go_wp2_with fail
      refine (l1In_calls _ _ _ _).mono ?_
      rw [D.out]
      rintro e w' ⟨rfl, rfl⟩
      go_wp2
      go_ret
      exact ⟨rfl, rfl⟩

theorem rd_single2 {w : World} {z : Int} : Rd (w.alloc (.cells #[.int .i64 z] 3)) (.slice (some ⟨w.heap.size, 0, none⟩) 1 1) [z] := by
  refine ⟨_, 1, rfl, Nat.le_refl _, ⟨by unfold maxLen; omega, fun h => by cases h⟩, .inr ⟨_, 0, rfl, by simp, fun i hi => ?_⟩⟩
  simp at hi
  subst hi
  exact World.cell?_alloc_at _ _ _ _ (by simp)
theorem take_snoc2 (l : List Int) (k : Nat) (h : k < l.length) : l.take (k + 1) = l.take k ++ [l.getD k 0] := by
  rw [List.take_succ_eq_append_getElem h, List.getD_eq_getElem?_getD, List.getElem?_eq_getElem h, Option.getD_some]
set_option maxRecDepth 100000 in
set_option maxHeartbeats 1600000 in
theorem l4Syndromes_calls (v : Value) (xs : List Int) (n : Nat) (w : World) (h : Rd w v xs) (he : xs.all elOk = true) (hn : n ≤ 3) :
    Calls Tryd.prog 77 #[v, .int .i64 n] w fun e w' => ∃ v', e = .returned v' ∧ Own w' w.heap.size v' (synI xs (2 * n)) ∧ Below w.heap.size w w' := by
  have R := hide h
  have E := hide he
  obtain ⟨S, hS⟩ : ∃ S, S = synI xs (2 * n) := ⟨_, rfl⟩
  rw [← hS]
  have HSl : Hid (S.length = 2 * n) := by rw [hS]; exact synI_length _ _
  have HSg : Hid (∀ k, k < 2 * n → S.getD k 0 = ((ev (pow 2 k) xs : Nat) : Int)) := by rw [hS]; exact synI_get xs (2 * n)
  clear h he hS
  go_enter Tryd.func77, Tryd.ntmps77
  go_wp2
  go_loopw [5, 6] (fun vo vk wr => ∃ k : Nat, k ≤ 2 * n ∧ vk = .int .i64 k ∧ Own wr w.heap.size vo (S.take k) ∧ Below w.heap.size w wr) (fun _ vk _ => 2 * n - (intOf vk).toNat)
  case atStart => exact ⟨0, Nat.zero_le _, rfl, World.ownsRow_nil _ _ _ _, Below.refl _ _⟩
  case round =>
    obtain ⟨k, hk, rfl, ho, hb⟩ := hrel
    have O := hide ho
    have B := hide hb
    clear ho hb
    by_cases hlt : k < 2 * n
    · have hlt' : (k : Int) < 2 * (n : Int) := by omega
      go_wp2_with fail
      refine (l1Pow_calls 2 k _ (by omega) (by omega) (by omega) (by omega)).mono ?_
      rintro e w' ⟨rfl, rfl⟩
      rw [Int.toNat_natCast]
      obtain ⟨x, hx⟩ : ∃ x, x = pow 2 k := ⟨_, rfl⟩
      rw [show pow (Int.toNat 2) k = x from hx.symm]
      have hx256 : x < 256 := by rw [hx]; exact pow_lt _ _
      obtain ⟨y, hy⟩ : ∃ y, y = ev x xs := ⟨_, rfl⟩
      have Y : Hid (S.getD k 0 = ((y : Nat) : Int)) := by rw [hy, hx]; exact HSg.out k hlt
      have E2 := hide hy
      clear hx hy
      go_wp2_with fail
      refine (l1Eval_calls _ xs x _ (R.out.below B.out) (by omega) (by omega) (all_get E.out)).mono ?_
      rw [Int.toNat_natCast, ← E2.out]
      rintro e w2 ⟨rfl, hb2⟩
      have O2 := hide ((O.out.below hb2).alloc (.cells #[.int .i64 ((y : Nat) : Int)] 3))
      have B2 := hide (B.out.trans (hb2.mono B.out.size))
      have HL2 : Hid ((S.take k).length = k) := by show (S.take k).length = k; rw [List.length_take, HSl.out]; omega
      clear hb2
      go_wp2_with (at_builtin; refine wpList_append_rd rfl _ _ rfl w.heap.size _ (S.take k).length (S.take k) [((y : Nat) : Int)] rfl O2.out _ rfl rd_single2 (by rw [HL2.out]; simp; omega) (by have := B2.out.size; simp; omega) ?_)
      intro v' w3 ho3 hg3
      have hb3 : Below w.heap.size w w3 := (B2.out.alloc B2.out.size _).grown hg3 (by have := B2.out.size; simp; omega) (fun i hi => (O.out.lt i hi).1)
      have e : S.take k ++ [((y : Nat) : Int)] = S.take (k + 1) := by rw [take_snoc2 S k (by rw [HSl.out]; exact hlt), Y.out]
      rw [e] at ho3
      have O3 := hide ho3
      have B3 := hide hb3
      clear ho3 hg3 hb3 e
      go_wp2
      go_roundw
      case rel => exact ⟨k + 1, by omega, by go_num, O3.out, B3.out⟩
      case measure => simp [intOf]; omega
    · obtain rfl : k = 2 * n := by omega
      have hlt' : ¬ ((2 * n : Nat) : Int) < 2 * (n : Int) := by omega
      have ho := O.out
      rw [List.take_of_length_le (by rw [HSl.out]; exact Nat.le_refl _)] at ho
      have O1 := hide ho
      clear ho O
      go_wp2
      go_ret
      exact ⟨_, rfl, O1.out, B.out⟩

set_option maxRecDepth 100000 in
set_option maxHeartbeats 1600000 in
theorem sSyndromesOf_calls (v : Value) (xs : List Int) (t : Int) (w : World) (h : Rd w v xs) :
    Calls Tryd.prog 21 #[v, .int .i64 t] w fun e w' => ∃ v', e = .returned (.tuple #[v', .bool (synR xs t).2]) ∧ Own w' w.heap.size v' (synR xs t).1 ∧ Below w.heap.size w w' := by
  have R := hide h
  clear h
  cases hw : wdOk xs t with
  | false =>
    rw [synR_no hw]
    have G := hide hw
    clear hw
    go_enter Tryd.func21, Tryd.ntmps21
    go_wp2_with fail
    refine (l4Word_calls _ xs _ _ R.out).mono ?_
    rw [G.out]
    rintro e w' ⟨rfl, rfl⟩
    go_wp2
    go_ret2
    exact ⟨_, rfl, own_nil _ _, Below.refl _ _⟩
  | true =>
    rw [synR_yes hw]
    obtain ⟨h1, h2, h3, h4⟩ := wdOk_yes hw
    obtain ⟨q1, q3⟩ := wOk_iff.1 h1
    obtain ⟨n, rfl⟩ := Int.eq_ofNat_of_zero_le (a := t) (by omega)
    rw [Int.toNat_natCast]
    have G := hide hw
    have E := hide h4
    clear hw h1 h2 h4
    go_enter Tryd.func21, Tryd.ntmps21
    go_wp2_with fail
    refine (l4Word_calls _ xs _ _ R.out).mono ?_
    rw [G.out]
    rintro e w' ⟨rfl, rfl⟩
    go_wp2_with fail
    refine (l4Syndromes_calls _ xs n _ R.out E.out (by omega)).mono ?_
    rintro e w1 ⟨v1, rfl, ho1, hb1⟩
    have O1 := hide ho1
    have B1 := hide hb1
    clear ho1 hb1
    go_wp2
    go_ret2
    exact ⟨_, rfl, O1.out, B1.out⟩
end Gf
end Go.Proofs.YtogopakmebiomaaDoor

namespace Go.Proofs.YtogopakmebiomaaDoor
open Go.RowKit

structure Sys (W w : World) (L : List (Value × List Int)) : Prop where
  below : Below W.heap.size W w
  own : ∀ (i : Nat) v xs, L[i]? = some (v, xs) → Own w W.heap.size v xs
  apart : ∀ (i j : Nat) v xs u ys, i ≠ j → L[i]? = some (v, xs) → L[j]? = some (u, ys) → v.ownBlock = none ∨ v.ownBlock ≠ u.ownBlock

theorem Sys.start (W : World) : Sys W W [] := ⟨Below.refl _ _, fun i v xs h => by simp at h, fun i j v xs u ys _ h => by simp at h⟩
theorem Sys.step {W w w' : World} {L : List (Value × List Int)} (h : Sys W w L) (hb : Below w.heap.size w w') : Sys W w' L :=
  ⟨h.below.trans (hb.mono h.below.size), fun i v xs hi => Own.below (h.own i v xs hi) hb, h.apart⟩
theorem Sys.add {W w w' : World} {L : List (Value × List Int)} {v : Value} {xs : List Int} (h : Sys W w L) (hb : Below w.heap.size w w') (ho : Own w' w.heap.size v xs) : Sys W w' ((v, xs) :: L) := by
  have old : ∀ (i : Nat) u ys, L[i]? = some (u, ys) → v.ownBlock = none ∨ v.ownBlock ≠ u.ownBlock := by
    intro i u ys hi
    cases hv : v.ownBlock with
    | none => exact .inl rfl
    | some k =>
      right
      intro e
      have h1 := (ho.lt k hv).1
      have h2 := (World.ownsRow.lt (h.own i u ys hi) k e.symm).2
      omega
  refine ⟨h.below.trans (hb.mono h.below.size), ?_, ?_⟩
  · intro i u ys hi
    cases i with
    | zero => simp at hi; obtain ⟨rfl, rfl⟩ := hi; exact Own.mono ho h.below.size
    | succ i => exact Own.below (h.own i u ys (by simpa using hi)) hb
  · intro i j a as1 b bs hij hi hj
    cases i with
    | zero =>
      cases j with
      | zero => exact absurd rfl hij
      | succ j => simp at hi; obtain ⟨rfl, rfl⟩ := hi; exact old j b bs (by simpa using hj)
    | succ i =>
      cases j with
      | zero =>
        simp at hj
        obtain ⟨rfl, rfl⟩ := hj
        have := old i a as1 (by simpa using hi)
        rcases this with hv | hne
        · cases ha : a.ownBlock with
          | none => exact .inl rfl
          | some k => right; rw [hv]; simp
        · exact .inr (fun e => hne e.symm)
      | succ j => exact h.apart i j a as1 b bs (fun e => hij (by rw [e])) (by simpa using hi) (by simpa using hj)
theorem Sys.mark {W w w' : World} {L : List (Value × List Int)} {v : Value} {xs ys : List Int} (h : Sys W w L) (i : Nat) (hi : L[i]? = some (v, xs)) (ho : Own w' W.heap.size v ys) (hg : w.grownBy w' v.ownBlock) : Sys W w' (L.set i (v, ys)) := by
  have hil : i < L.length := (List.getElem?_eq_some_iff.1 hi).1
  refine ⟨h.below.grown hg h.below.size (fun k hk => (World.ownsRow.lt (h.own i v xs hi) k hk).1), ?_, ?_⟩
  · intro j u us hj
    by_cases e : i = j
    · subst e
      rw [List.getElem?_set_self hil] at hj
      simp at hj
      obtain ⟨rfl, rfl⟩ := hj
      exact ho
    · rw [List.getElem?_set_ne e] at hj
      exact World.ownsRow.kept (h.own j u us hj) hg (h.apart j i u us v xs (fun e' => e e'.symm) hj hi)
  · intro j k a as1 b bs hjk hj hk
    have get : ∀ (m : Nat) c cs, (L.set i (v, ys))[m]? = some (c, cs) → ∃ cs', L[m]? = some (c, cs') := by
      intro m c cs hm
      by_cases e : i = m
      · subst e
        rw [List.getElem?_set_self hil] at hm
        simp at hm
        obtain ⟨rfl, rfl⟩ := hm
        exact ⟨xs, hi⟩
      · rw [List.getElem?_set_ne e] at hm
        exact ⟨cs, hm⟩
    obtain ⟨as2, ha⟩ := get j a as1 hj
    obtain ⟨bs', hb⟩ := get k b bs hk
    exact h.apart j k a as2 b bs' hjk ha hb
theorem Sys.rd {W w : World} {L : List (Value × List Int)} {v : Value} {xs : List Int} (h : Sys W w L) (i : Nat) (hi : L[i]? = some (v, xs)) : Rd w v xs := (h.own i v xs hi).rd
end Go.Proofs.YtogopakmebiomaaDoor

namespace Go.Proofs.YtogopakmebiomaaDoor
open Go.RowKit

/-- Two new slices of no block in common. -/
def Two (w w' : World) (v1 v2 : Value) (r1 r2 : List Int) : Prop :=
  Own w' w.heap.size v1 r1 ∧ Own w' w.heap.size v2 r2 ∧ (v1.ownBlock = none ∨ v1.ownBlock ≠ v2.ownBlock) ∧ Below w.heap.size w w'
theorem Two.nil1 {w w' : World} {v2 : Value} {r2 : List Int} (h : Own w' w.heap.size v2 r2) (hb : Below w.heap.size w w') : Two w w' (.slice none 0 0) v2 [] r2 := ⟨Gf.own_nil _ _, h, .inl rfl, hb⟩
theorem Sys.add2 {W w w' : World} {L : List (Value × List Int)} {v1 v2 : Value} {r1 r2 : List Int} (h : Sys W w L) (h2 : Two w w' v1 v2 r1 r2) : Sys W w' ((v2, r2) :: (v1, r1) :: L) := by
  obtain ⟨o1, o2, hd, hb⟩ := h2
  have s1 := h.add hb o1
  have s2 := h.add hb o2
  have hd' : v2.ownBlock = none ∨ v2.ownBlock ≠ v1.ownBlock := by
    rcases hd with hd | hd
    · cases e : v2.ownBlock with
      | none => exact .inl rfl
      | some k => right; rw [hd]; simp
    · exact .inr (fun e => hd e.symm)
  refine ⟨s1.below, ?_, ?_⟩
  · intro i u ys hi
    cases i with
    | zero => exact s2.own 0 u ys (by simpa using hi)
    | succ i => exact s1.own i u ys (by simpa using hi)
  · intro i j a as1 b bs hij hi hj
    cases i with
    | zero =>
      simp at hi
      obtain ⟨rfl, rfl⟩ := hi
      cases j with
      | zero => exact absurd rfl hij
      | succ j =>
        cases j with
        | zero => simp at hj; obtain ⟨rfl, rfl⟩ := hj; exact hd'
        | succ j => exact s2.apart 0 (j + 1) v2 r2 b bs (by omega) (by simp) (by simpa using hj)
    | succ i =>
      cases j with
      | zero =>
        simp at hj
        obtain ⟨rfl, rfl⟩ := hj
        cases i with
        | zero => simp at hi; obtain ⟨rfl, rfl⟩ := hi; exact hd
        | succ i => exact s2.apart (i + 1) 0 a as1 v2 r2 (by omega) (by simpa using hi) (by simp)
      | succ j => exact s1.apart i j a as1 b bs (fun e => hij (by rw [e])) (by simpa using hi) (by simpa using hj)

namespace Gf
set_option maxRecDepth 100000 in
set_option maxHeartbeats 1600000 in
theorem divPoly_no (pv qv : Value) (xs ys : List Int) (w : World) (hp : Rd w pv xs) (hq : Rd w qv ys) (h : ¬ (goodP xs = true ∧ goodP ys = true ∧ ys.length ≠ 0)) :
    Calls Tryd.prog 74 #[pv, qv] w fun e w' => e = .returned (.tuple #[.slice none 0 0, .slice none 0 0, .bool false]) ∧ w = w' := by
  have P := hide hp
  have Q := hide hq
  clear hp hq
  cases hgx : goodP xs with
  | false =>
    have G := hide hgx
    clear hgx h
    go_enter Tryd.func74, Tryd.ntmps74
    go_wp2_with (go_at_call 124; refine (isPoly_calls pv xs _ P.out).mono ?_; rw [G.out]; rintro e w' ⟨rfl, rfl⟩)
    go_ret3
    exact ⟨rfl, rfl⟩
  | true =>
    have G := hide hgx
    cases hgy : goodP ys with
    | false =>
      have G2 := hide hgy
      clear hgx hgy h
      go_enter Tryd.func74, Tryd.ntmps74
      go_wp2_with fail
      refine (isPoly_calls pv xs _ P.out).mono ?_
      rw [G.out]
      rintro e w' ⟨rfl, rfl⟩
      go_wp2_with fail
      refine (isPoly_calls qv ys _ Q.out).mono ?_
      rw [G2.out]
      rintro e w' ⟨rfl, rfl⟩
      go_wp2
      go_ret3
      exact ⟨rfl, rfl⟩
    | true =>
      have G2 := hide hgy
      have h0 : ys.length = 0 := by
        by_cases e : ys.length = 0
        · exact e
        · exact absurd ⟨hgx, hgy, e⟩ h
      obtain ⟨qa, qcap, rfl, _, _, _⟩ := Q.out
      have t1 : ((ys.length : Int) == 0) = true := by simp [List.eq_nil_of_length_eq_zero h0]
      clear hgx hgy h h0
      go_enter Tryd.func74, Tryd.ntmps74
      go_wp2_with fail
      refine (isPoly_calls pv xs _ P.out).mono ?_
      rw [G.out]
      rintro e w' ⟨rfl, rfl⟩
      go_wp2_with fail
      refine (isPoly_calls _ ys _ Q.out).mono ?_
      rw [G2.out]
      rintro e w' ⟨rfl, rfl⟩
      go_wp2
      go_ret3
      exact ⟨rfl, rfl⟩

set_option maxRecDepth 100000 in
set_option maxHeartbeats 1600000 in
theorem divPoly_short (pv qv : Value) (xs ys : List Int) (w : World) (hp : Rd w pv xs) (hq : Rd w qv ys) (hx : goodP xs = true) (hy : goodP ys = true) (h0 : ys.length ≠ 0) (h : xs.length < ys.length) :
    Calls Tryd.prog 74 #[pv, qv] w fun e w' => ∃ v2, e = .returned (.tuple #[.slice none 0 0, v2, .bool true]) ∧ Own w' w.heap.size v2 (cutL xs) ∧ Below w.heap.size w w' := by
  have P := hide hp
  have Q := hide hq
  have G := hide hx
  have G2 := hide hy
  have lx := goodP_len hx
  clear hp hq hx hy
  obtain ⟨pa, pcap, rfl, _, _, _⟩ := P.out
  obtain ⟨qa, qcap, rfl, _, _, _⟩ := Q.out
  have t1 : ((ys.length : Int) == 0) = false := by simp; intro e; simp [e] at h0
  have t2 : (xs.length : Int) < (ys.length : Int) := by omega
  go_enter Tryd.func74, Tryd.ntmps74
  go_wp2_with fail
  refine (isPoly_calls _ xs _ P.out).mono ?_
  rw [G.out]
  rintro e w' ⟨rfl, rfl⟩
  go_wp2_with fail
  refine (isPoly_calls _ ys _ Q.out).mono ?_
  rw [G2.out]
  rintro e w' ⟨rfl, rfl⟩
  go_wp2_with fail
  refine (without_calls _ xs _ P.out (by omega)).mono ?_
  rintro e w1 ⟨v2, rfl, ho, hb⟩
  have O := hide (And.intro ho hb)
  clear ho hb
  go_wp2
  go_ret3
  exact ⟨_, rfl, O.out.1, O.out.2⟩

set_option maxRecDepth 100000 in
set_option maxHeartbeats 3200000 in
theorem divPoly_yes (pv qv : Value) (xs ys : List Int) (w : World) (hT : Tab w) (hp : Rd w pv xs) (hq : Rd w qv ys) (hx : goodP xs = true) (hy : goodP ys = true) (h0 : ys.length ≠ 0) (h : ¬ xs.length < ys.length) :
    Calls Tryd.prog 74 #[pv, qv] w fun e w' => ∃ v1 v2, e = .returned (.tuple #[v1, v2, .bool true]) ∧
      Two w w' v1 v2 (ci (dv (nat xs) (nat ys) (xs.length - ys.length) (xs.length - ys.length + 1) (xs.length - ys.length + 1)).2) (cutL (ci (dv (nat xs) (nat ys) (xs.length - ys.length) (xs.length - ys.length + 1) (xs.length - ys.length + 1)).1)) := by
  have P := hide hp
  have Q := hide hq
  have T := hide hT
  have G := hide hx
  have G2 := hide hy
  have lx := goodP_len hx
  have GX := hide (goodP_mem hx)
  have GY := hide (goodP_mem hy)
  have hlast := goodP_all hy (ys.length - 1) (by omega)
  obtain ⟨m, hm⟩ : ∃ m, m = xs.length - ys.length := ⟨_, rfl⟩
  rw [← hm]
  have em : (xs.length : Int) - (ys.length : Int) = (m : Int) := by omega
  have em' : xs.length = m + ys.length := by omega
  have EM := hide em'
  have hmx : m + 1 ≤ xs.length := by omega
  clear hm em'
  obtain ⟨pa, pcap, rfl, _, _, _⟩ := P.out
  have hq' := hq
  obtain ⟨qa, qcap, rfl, _, _, h3⟩ := hq'
  clear hp hq hx hy hT
  rcases h3 with h3 | ⟨qb, qoff, rfl, hqs, hqc⟩
  · subst h3; simp at h0
  have hqc1 := hqc (ys.length - 1) (by omega)
  clear hqc
  obtain ⟨t, ht⟩ : ∃ t, t = (nat ys).getD (ys.length - 1) 0 := ⟨_, rfl⟩
  have htx : ys.getD (ys.length - 1) 0 = (t : Int) := by
    have := ci_getD (nat ys) (ys.length - 1)
    rw [ci_natp GY.out] at this
    rw [this, ht]
  have ht256 : t < 256 := by omega
  rw [htx] at hqc1
  have HTop := hide ht
  clear ht htx hlast
  have t1 : ((ys.length : Int) == 0) = false := by simp; intro e; simp [e] at h0
  have t2 : ¬ (xs.length : Int) < (ys.length : Int) := by omega
  have hly : 0 < ys.length := by omega
  have f1 : ((ys.length : Int) - 1).toNat = ys.length - 1 := by omega
  have f2 : (0 : Int) ≤ (ys.length : Int) - 1 := by omega
  have f3 : (ys.length : Int) - 1 < (ys.length : Int) := by omega
  have hinv := inv_lt t
  clear h0 h
  go_enter Tryd.func74, Tryd.ntmps74
  go_wp2_with fail
  refine (isPoly_calls _ xs _ P.out).mono ?_
  rw [G.out]
  rintro e w' ⟨rfl, rfl⟩
  go_wp2_with fail
  refine (isPoly_calls _ ys _ Q.out).mono ?_
  rw [G2.out]
  rintro e w' ⟨rfl, rfl⟩
  go_wp2_with (first
    | (at_make; refine wpList_make_ints rfl (.tmp 32) (.tmp 32) rfl w.heap.size _ _ xs.length rfl rfl (by omega) (by omega) (by omega) (Nat.le_refl _) ?_; intro w0 hown0 hgrow0)
    | (refine wpList_copy_fresh rfl _ _ rfl w.heap.size w.heap.size xs.length _ rfl hown0 _ rfl xs (by exact P.out.below ((Below.refl _ _).grown hgrow0 (Nat.le_refl _) (fun k h => by cases h))) (Nat.le_refl _) (Nat.le_refl _) (by unfold maxLen; omega) w.heap.size w ((Below.refl _ _).grown hgrow0 (Nat.le_refl _) (fun k h => by cases h)) (Nat.le_refl _) ?_; intro w1 hown1 hb1 hg1)
    | (at_make; refine wpList_make_ints rfl (.tmp 42) (.tmp 42) rfl w1.heap.size _ _ (m + 1) rfl rfl (by omega) (by omega) (by omega) (Nat.le_refl _) ?_; intro w2 hown2 hgrow2; have hqc2 : w2.cell? ⟨qb, qoff + (ys.length - 1), none⟩ = some (.int .i64 (t : Nat)) := ((hb1.grown hgrow2 hb1.size (fun k h => by cases h)).cell (p := ⟨qb, qoff + (ys.length - 1), none⟩) hqs).trans hqc1))
  have B2 := hide (hb1.grown hgrow2 hb1.size (fun k h => by cases h))
  have hlt1 : w.heap.size < w1.heap.size := (World.ownsRow.lt hown1 w.heap.size rfl).2
  have OL : Hid (w2.ownsRow w.heap.size 3 1 (.slice (some ⟨w.heap.size, 0, none⟩) xs.length xs.length) xs.length ((ci (dv (nat xs) (nat ys) m (m + 1) 0).1).map (Value.int .i64))) := by
    have h := World.ownsRow.kept hown1 hgrow2 (.inr (by simp [Value.ownBlock]))
    rw [List.take_length] at h
    show World.ownsRow _ _ _ _ _ _ ((ci (nat xs)).map _)
    rw [ci_natp GX.out]
    exact h
  have OQ : Hid (w2.ownsRow w1.heap.size 3 1 (.slice (some ⟨w1.heap.size, 0, none⟩) (m + 1) (m + 1)) (m + 1) ((ci (dv (nat xs) (nat ys) m (m + 1) 0).2).map (Value.int .i64))) := by
    have h := hown2
    unfold Own at h
    rw [List.length_replicate] at h
    have e : (ci (dv (nat xs) (nat ys) m (m + 1) 0).2).map (Value.int .i64) = (List.replicate (m + 1) (0 : Int)).map (Value.int .i64) := by simp [dv, ci]
    rw [e]
    exact h
  clear hown0 hgrow0 hown1 hb1 hg1 hown2 hgrow2
  refine (inv_calls _ _ (T.out.below B2.out) (by omega) (by omega)).mono ?_
  rintro e w3 ⟨rfl, rfl⟩
  go_wp2
  go_loopw [10] (fun vk wr => ∃ j : Nat, j ≤ m + 1 ∧ vk = .int .i64 ((m : Int) - (j : Int)) ∧
      wr.ownsRow w.heap.size 3 1 (.slice (some ⟨w.heap.size, 0, none⟩) xs.length xs.length) xs.length ((ci (dv (nat xs) (nat ys) m (m + 1) j).1).map (Value.int .i64)) ∧
      wr.ownsRow w1.heap.size 3 1 (.slice (some ⟨w1.heap.size, 0, none⟩) (m + 1) (m + 1)) (m + 1) ((ci (dv (nat xs) (nat ys) m (m + 1) j).2).map (Value.int .i64)) ∧ Below w.heap.size w wr) (fun vk _ => (intOf vk + 1).toNat)
  case atStart => exact ⟨0, Nat.zero_le _, by go_num, OL.out, OQ.out, B2.out⟩
  case round =>
    obtain ⟨j, hj, rfl, hol, hoq, hb⟩ := hrel
    have L := hide hol
    have Qo := hide hoq
    have B := hide hb
    clear hol hoq hb
    by_cases hjm : j ≤ m
    · obtain ⟨k, hk⟩ : ∃ k, m = j + k := ⟨m - j, by omega⟩
      have hkm : m - j = k := by omega
      have e0 : (m : Int) - (j : Int) = (k : Int) := by omega
      rw [e0]
      have hk1 : k < m + 1 := by omega
      have hkx : k + ys.length ≤ xs.length := by have := EM.out; omega
      have HK := hide hkm
      clear hk hkm e0
      obtain ⟨y, hy⟩ : ∃ y, y = (dv (nat xs) (nat ys) m (m + 1) j).1.getD (k + ys.length - 1) 0 := ⟨_, rfl⟩
      have hy256 : y < 256 := by rw [hy]; exact dv_lt1 (nat_ltp GX.out) j _
      have hc1 := own_cell L.out (k + ys.length - 1) (by rw [dv_len1, nat_length]; omega)
      rw [← hy] at hc1
      have hc2 := Qo.out.frozenAt k
      have hc3 := own_cell Qo.out k (by rw [dv_len2]; exact hk1)
      obtain ⟨old, hold⟩ : ∃ old : Int, old = ((dv (nat xs) (nat ys) m (m + 1) j).2.getD k 0 : Nat) := ⟨_, rfl⟩
      rw [← hold] at hc3
      have hd : Hid (mul y (inv t) = dq (dv (nat xs) (nat ys) m (m + 1) j).1 (nat ys) k) := by
        show mul y (inv t) = _
        unfold dq
        rw [nat_length, ← hy, HTop.out]
      have hd256 : mul y (inv t) < 256 := mul_lt hy256
      clear hy hold
      have g1 : ((k : Int) + (ys.length : Int) - 1).toNat = k + ys.length - 1 := by omega
      have g2 : (0 : Int) ≤ (k : Int) + (ys.length : Int) - 1 := by omega
      have g3 : (k : Int) + (ys.length : Int) - 1 < (xs.length : Int) := by omega
      have g4 : (k : Int) < (m : Int) + 1 := by omega
      have Tr := hide (T.out.below B.out)
      obtain ⟨d, hdd⟩ : ∃ d, d = mul y (inv t) := ⟨_, rfl⟩
      have hdl : d < 256 := by rw [hdd]; exact hd256
      have HD := hide hdd
      clear hdd hd256
      go_wp2_with fail
      refine (mulE_calls _ _ _ Tr.out (by omega) (by omega) (by omega) (by omega)).mono ?_
      simp only [Int.toNat_natCast]
      rw [← HD.out]
      rintro e w4 ⟨rfl, rfl⟩
      go_wp2_with fail
      have hne : (Value.slice (some ⟨w.heap.size, 0, none⟩) xs.length xs.length).ownBlock ≠ some w1.heap.size := by simp [Value.ownBlock]; omega
      have L1 := hide (ownsRow_setCell_other L.out (a := ⟨w1.heap.size, k, none⟩) hne (.int .i64 (d : Nat)))
      have Q1 : Hid ((wr.setCell ⟨w1.heap.size, k, none⟩ (.int .i64 (d : Nat))).ownsRow w1.heap.size 3 1 (.slice (some ⟨w1.heap.size, 0, none⟩) (m + 1) (m + 1)) (m + 1) ((ci (dv (nat xs) (nat ys) m (m + 1) (j + 1)).2).map (Value.int .i64))) := by
        have h := (Qo.out.stored k (.int .i64 (d : Nat))).1
        rw [← List.map_set, ci_set] at h
        have e : (dv (nat xs) (nat ys) m (m + 1) (j + 1)).2 = (dv (nat xs) (nat ys) m (m + 1) j).2.set k d := by
          simp only [dv]
          rw [HK.out, HD.out, hd.out]
        rw [e]
        exact h
      have B1 : Hid (Below w.heap.size w (wr.setCell ⟨w1.heap.size, k, none⟩ (.int .i64 (d : Nat)))) := B.out.setCell (Nat.le_of_lt hlt1) _
      have keep : Hid (∀ w', (wr.setCell ⟨w1.heap.size, k, none⟩ (.int .i64 (d : Nat))).grownBy w' (some w.heap.size) → Below w.heap.size w w') := fun w' hg => B1.out.grown hg B1.out.size (fun k h => by simp at h; omega)
      refine (addMultiple_calls _ _ (dv (nat xs) (nat ys) m (m + 1) j).1 (nat ys) _ _ w.heap.size _ (fun w' hg => T.out.below (keep.out w' hg)) ?o1 ?q1 (by omega) (by omega) (by omega) ?f1 ?f2 (dv_lt1 (nat_ltp GX.out) j) (nat_ltp GY.out) ?f3).mono ?_
      case o1 =>
        show World.ownsRow _ _ _ _ _ (ci _).length _
        rw [ci_length, dv_len1, nat_length]
        exact L1.out
      case q1 =>
        intro w' hg
        rw [ci_natp GY.out]
        exact Q.out.below (keep.out w' hg)
      case f1 => rw [nat_length, dv_len1, nat_length]; omega
      case f2 => rw [dv_len1, nat_length]; omega
      case f3 => rw [dv_len1, nat_length]; omega
      rintro e w5 ⟨rfl, hown5, hg5⟩
      have L5 : Hid (w5.ownsRow w.heap.size 3 1 (.slice (some ⟨w.heap.size, 0, none⟩) xs.length xs.length) xs.length ((ci (dv (nat xs) (nat ys) m (m + 1) (j + 1)).1).map (Value.int .i64))) := by
        have h := hown5
        unfold Own at h
        rw [ci_length, amTo_length, dv_len1, nat_length, nat_length, Int.toNat_natCast, Int.toNat_natCast] at h
        have e : (dv (nat xs) (nat ys) m (m + 1) (j + 1)).1 = amTo (dv (nat xs) (nat ys) m (m + 1) j).1 (nat ys) d k ys.length := by
          simp only [dv]
          rw [HK.out, HD.out, hd.out, nat_length]
        rw [e]
        exact h
      have Q5 := hide (World.ownsRow.kept Q1.out hg5 (.inr (by simp [Value.ownBlock]; omega)))
      have B5 := hide (keep.out w5 hg5)
      clear hown5 hg5
      go_wp2
      go_roundw
      case rel => exact ⟨j + 1, by omega, int_eq (by have := HK.out; omega), L5.out, Q5.out, B5.out⟩
      case measure => simp [intOf]
    · obtain rfl : j = m + 1 := by omega
      have e0 : (m : Int) - ((m + 1 : Nat) : Int) = -1 := by omega
      rw [e0]
      have hL : Own wr w.heap.size (.slice (some ⟨w.heap.size, 0, none⟩) xs.length xs.length) (ci (dv (nat xs) (nat ys) m (m + 1) (m + 1)).1) := by
        show World.ownsRow _ _ _ _ _ (ci _).length _
        rw [ci_length, dv_len1, nat_length]
        exact L.out
      have hQ : Own wr w1.heap.size (.slice (some ⟨w1.heap.size, 0, none⟩) (m + 1) (m + 1)) (ci (dv (nat xs) (nat ys) m (m + 1) (m + 1)).2) := by
        show World.ownsRow _ _ _ _ _ (ci _).length _
        rw [ci_length, dv_len2]
        exact Qo.out
      have HL := hide hL
      have HQ := hide hQ
      have hqlt : w1.heap.size < wr.heap.size := (World.ownsRow.lt Qo.out w1.heap.size rfl).2
      clear hL hQ
      go_wp2_with fail
      refine (without_calls _ _ _ HL.out.rd (by rw [ci_length, dv_len1, nat_length]; omega)).mono ?_
      rintro e w6 ⟨v2, rfl, ho6, hb6⟩
      have R : Hid (Two w w6 (.slice (some ⟨w1.heap.size, 0, none⟩) (m + 1) (m + 1)) v2 (ci (dv (nat xs) (nat ys) m (m + 1) (m + 1)).2) (cutL (ci (dv (nat xs) (nat ys) m (m + 1) (m + 1)).1))) := by
        refine ⟨Own.mono (Own.below HQ.out hb6) (Nat.le_of_lt hlt1), Own.mono ho6 B.out.size, .inr ?_, B.out.trans (hb6.mono B.out.size)⟩
        intro e
        have := (ho6.lt w1.heap.size (by rw [← e]; rfl)).1
        omega
      clear ho6 hb6
      go_wp2
      go_ret3
      exact ⟨_, _, rfl, R.out⟩
end Gf
end Go.Proofs.YtogopakmebiomaaDoor

namespace Go.Proofs.YtogopakmebiomaaDoor
open Go.RowKit
namespace Gf

set_option maxRecDepth 100000 in
set_option maxHeartbeats 1600000 in
theorem sDivPoly_no (pv qv : Value) (xs ys : List Int) (w : World) (hp : Rd w pv xs) (hq : Rd w qv ys) (h : ¬ (goodP xs = true ∧ goodP ys = true ∧ ys.length ≠ 0)) :
    Calls Tryd.prog 70 #[pv, qv] w fun e w' => e = .returned (.tuple #[.slice none 0 0, .slice none 0 0, .bool false]) ∧ w = w' := by
  have P := hide hp
  have Q := hide hq
  clear hp hq
  cases hgx : goodP xs with
  | false =>
    have G := hide hgx
    clear hgx h
    go_enter Tryd.func70, Tryd.ntmps70
    go_wp2_with (go_at_call 126; refine (l1Poly_calls pv xs _ P.out).mono ?_; rw [G.out]; rintro e w' ⟨rfl, rfl⟩)
    go_ret3
    exact ⟨rfl, rfl⟩
  | true =>
    have G := hide hgx
    cases hgy : goodP ys with
    | false =>
      have G2 := hide hgy
      clear hgx hgy h
      go_enter Tryd.func70, Tryd.ntmps70
      go_wp2_with fail
      refine (l1Poly_calls pv xs _ P.out).mono ?_
      rw [G.out]
      rintro e w' ⟨rfl, rfl⟩
      go_wp2_with fail
      refine (l1Poly_calls qv ys _ Q.out).mono ?_
      rw [G2.out]
      rintro e w' ⟨rfl, rfl⟩
      go_wp2
      go_ret3
      exact ⟨rfl, rfl⟩
    | true =>
      have G2 := hide hgy
      have h0 : ys.length = 0 := by
        by_cases e : ys.length = 0
        · exact e
        · exact absurd ⟨hgx, hgy, e⟩ h
      obtain ⟨qa, qcap, rfl, _, _, _⟩ := Q.out
      have t1 : ((ys.length : Int) == 0) = true := by simp [List.eq_nil_of_length_eq_zero h0]
      clear hgx hgy h h0
      go_enter Tryd.func70, Tryd.ntmps70
      go_wp2_with fail
      refine (l1Poly_calls pv xs _ P.out).mono ?_
      rw [G.out]
      rintro e w' ⟨rfl, rfl⟩
      go_wp2_with fail
      refine (l1Poly_calls _ ys _ Q.out).mono ?_
      rw [G2.out]
      rintro e w' ⟨rfl, rfl⟩
      go_wp2
      go_ret3
      exact ⟨rfl, rfl⟩

/-- How far the model's division goes: no step where the first is shorter. -/
def steps (xs ys : List Int) : Nat := if xs.length < ys.length then 0 else xs.length - ys.length + 1

set_option maxRecDepth 100000 in
set_option maxHeartbeats 3200000 in
theorem sDivPoly_yes (pv qv : Value) (xs ys : List Int) (w : World) (hp : Rd w pv xs) (hq : Rd w qv ys) (hx : goodP xs = true) (hy : goodP ys = true) (h0 : ys.length ≠ 0) :
    Calls Tryd.prog 70 #[pv, qv] w fun e w' => ∃ v1 v2, e = .returned (.tuple #[v1, v2, .bool true]) ∧
      Two w w' v1 v2 (cutL (ci (dv (nat xs) (nat ys) (xs.length - ys.length) xs.length (steps xs ys)).2)) (cutL (ci (dv (nat xs) (nat ys) (xs.length - ys.length) xs.length (steps xs ys)).1)) := by
  have P := hide hp
  have Q := hide hq
  have G := hide hx
  have G2 := hide hy
  have lx := goodP_len hx
  have ly := goodP_len hy
  have GX := hide (goodP_mem hx)
  have GY := hide (goodP_mem hy)
  have AY := hide (goodP_all hy)
  have hlast := goodP_all hy (ys.length - 1) (by omega)
  obtain ⟨m, hm⟩ : ∃ m, m = xs.length - ys.length := ⟨_, rfl⟩
  obtain ⟨st, hst⟩ : ∃ st, st = steps xs ys := ⟨_, rfl⟩
  rw [← hm, ← hst]
  have hstep : (xs.length : Int) - (ys.length : Int) < 0 ∧ st = 0 ∨ (xs.length : Int) - (ys.length : Int) = (m : Int) ∧ st = m + 1 ∧ xs.length = m + ys.length := by
    unfold steps at hst
    split at hst <;> omega
  clear hm hst
  obtain ⟨pa, pcap, rfl, _, _, _⟩ := P.out
  have hq' := hq
  obtain ⟨qa, qcap, rfl, _, _, h3⟩ := hq'
  clear hp hq hx hy
  rcases h3 with h3 | ⟨qb, qoff, rfl, hqs, hqc⟩
  · subst h3; simp at h0
  have hqc1 := hqc (ys.length - 1) (by omega)
  have QC := hide hqc
  clear hqc
  obtain ⟨t, ht⟩ : ∃ t, t = (nat ys).getD (ys.length - 1) 0 := ⟨_, rfl⟩
  have htx : ys.getD (ys.length - 1) 0 = (t : Int) := by
    have := ci_getD (nat ys) (ys.length - 1)
    rw [ci_natp GY.out] at this
    rw [this, ht]
  have ht256 : t < 256 := by omega
  rw [htx] at hqc1
  have HTop := hide ht
  clear ht htx hlast
  have t1 : ((ys.length : Int) == 0) = false := by simp; intro e; simp [e] at h0
  have hly : 0 < ys.length := by omega
  have f1 : ((ys.length : Int) - 1).toNat = ys.length - 1 := by omega
  have f2 : (0 : Int) ≤ (ys.length : Int) - 1 := by omega
  have f3 : (ys.length : Int) - 1 < (ys.length : Int) := by omega
  have HS := hide hstep
  clear h0 hstep
  have OO : Hid (Own (w.alloc (.cells #[] 3)) w.heap.size (.slice (some ⟨w.heap.size, 0, none⟩) 0 0) []) :=
    World.ownsRow_lit w #[] 0 (Nat.le_refl _) (Nat.zero_le _) (by rfl)
  have RR := hide (P.out.below ((Below.refl w.heap.size w).alloc (Nat.le_refl _) (.cells #[] 3)))
  go_enter Tryd.func70, Tryd.ntmps70
  go_wp2_with fail
  refine (l1Poly_calls _ xs _ P.out).mono ?_
  rw [G.out]
  rintro e w' ⟨rfl, rfl⟩
  go_wp2_with fail
  refine (l1Poly_calls _ ys _ Q.out).mono ?_
  rw [G2.out]
  rintro e w' ⟨rfl, rfl⟩
  go_wp2_with (first
    | (at_builtin; refine wpList_append_rd rfl _ _ rfl w.heap.size _ 0 [] xs rfl OO.out _ rfl RR.out (by omega) (by simp) ?_; intro vr w1 hown1 hg1; have hb1 : Below w.heap.size w w1 := ((Below.refl _ _).alloc (Nat.le_refl _) _).grown hg1 (by simp) (fun k hk => (OO.out.lt k hk).1))
    | (at_make; refine wpList_make_ints rfl _ _ rfl w1.heap.size _ _ xs.length rfl rfl (by omega) (by omega) (by omega) (Nat.le_refl _) ?_; intro w2 hown2 hgrow2; have hqc2 : w2.cell? ⟨qb, qoff + (ys.length - 1), none⟩ = some (.int .i64 (t : Nat)) := ((hb1.grown hgrow2 hb1.size (fun k h => by cases h)).cell (p := ⟨qb, qoff + (ys.length - 1), none⟩) hqs).trans hqc1))
  have B2 := hide (hb1.grown hgrow2 hb1.size (fun k h => by cases h))
  have OQ : Hid (w2.ownsRow w1.heap.size 3 1 (.slice (some ⟨w1.heap.size, 0, none⟩) xs.length xs.length) xs.length ((ci (dv (nat xs) (nat ys) m xs.length 0).2).map (Value.int .i64))) := by
    have h := hown2
    unfold Own at h
    rw [List.length_replicate] at h
    have e : (ci (dv (nat xs) (nat ys) m xs.length 0).2).map (Value.int .i64) = (List.replicate xs.length (0 : Int)).map (Value.int .i64) := by simp [dv, ci]
    rw [e]
    exact h
  have OR : Hid (Own w2 w.heap.size vr (ci (dv (nat xs) (nat ys) m xs.length 0).1)) := by
    have h : Own w2 w.heap.size vr xs := World.ownsRow.kept hown1 hgrow2 (by cases hv : vr.ownBlock <;> simp)
    show Own w2 w.heap.size vr (ci (nat xs))
    rw [ci_natp GX.out]
    exact h
  have hvlt : ∀ k, vr.ownBlock = some k → w.heap.size ≤ k ∧ k < w1.heap.size := fun k hk => hown1.lt k hk
  have HV := hide hvlt
  have hlt1 := hb1.size
  clear hown1 hg1 hb1 hown2 hgrow2 hvlt hqc1
  rcases HS.out with ⟨hneg, hst⟩ | ⟨hpos, hst, hlen⟩
  · subst hst
    have HL : Hid (Own w2 w1.heap.size (.slice (some ⟨w1.heap.size, 0, none⟩) xs.length xs.length) (ci (dv (nat xs) (nat ys) m xs.length 0).2)) := by
      show World.ownsRow _ _ _ _ _ (ci _).length _
      rw [ci_length, dv_len2]
      exact OQ.out
    clear OQ HS
    go_wp2
    refine wp_loop_rounds 1 ?_
    rw [rounds_succ]
    go_wp2_with fail
    refine (l1Cut_calls _ _ _ HL.out.rd (by rw [ci_length, dv_len2]; omega)).mono ?_
    rintro e w3 ⟨v1, rfl, ho3, hb3⟩
    have O3 := hide ho3
    have B3 := hide hb3
    have R3 := hide (Own.below OR.out hb3)
    clear ho3 hb3
    go_wp2_with fail
    refine (l1Cut_calls _ _ _ R3.out.rd (by rw [ci_length, dv_len1, nat_length]; omega)).mono ?_
    rintro e w4 ⟨v2, rfl, ho4, hb4⟩
    have R : Hid (Two w w4 v1 v2 (cutL (ci (dv (nat xs) (nat ys) m xs.length 0).2)) (cutL (ci (dv (nat xs) (nat ys) m xs.length 0).1))) := by
      refine ⟨Own.mono (Own.below O3.out hb4) B2.out.size, Own.mono ho4 (Nat.le_trans B2.out.size B3.out.size), ?_, (B2.out.trans (B3.out.mono B2.out.size)).trans (hb4.mono (Nat.le_trans B2.out.size B3.out.size))⟩
      cases hv : v1.ownBlock with
      | none => exact .inl rfl
      | some k =>
        right
        intro e
        have h1 := (O3.out.lt k hv).2
        have h2 := (ho4.lt k e.symm).1
        omega
    clear ho4 hb4
    go_wp2
    go_ret3
    exact ⟨_, _, rfl, R.out⟩
  · subst hst
    have EM := hide hlen
    have hmx : m + 1 ≤ xs.length := by omega
    clear hlen
    have OR' : Hid (w2.ownsRow w.heap.size 3 1 vr xs.length ((ci (dv (nat xs) (nat ys) m xs.length 0).1).map (Value.int .i64))) := by
      have h := OR.out
      unfold Own at h
      rw [ci_length, dv_len1, nat_length] at h
      exact h
    obtain ⟨g, cap, hv, _⟩ := Own.open OR.out (by rw [ci_length, dv_len1, nat_length]; omega)
    rw [ci_length, dv_len1, nat_length] at hv
    subst hv
    have hg1 : w.heap.size ≤ g := (HV.out g rfl).1
    have hg2 : g < w1.heap.size := (HV.out g rfl).2
    clear OR HS HV
    rw [hpos]
    clear hpos
    go_wp2
    go_loopw [10] (fun vk wr => ∃ j : Nat, j ≤ m + 1 ∧ vk = .int .i64 ((m : Int) - (j : Int)) ∧
        wr.ownsRow w.heap.size 3 1 (.slice (some ⟨g, 0, none⟩) xs.length cap) xs.length ((ci (dv (nat xs) (nat ys) m xs.length j).1).map (Value.int .i64)) ∧
        wr.ownsRow w1.heap.size 3 1 (.slice (some ⟨w1.heap.size, 0, none⟩) xs.length xs.length) xs.length ((ci (dv (nat xs) (nat ys) m xs.length j).2).map (Value.int .i64)) ∧ Below w.heap.size w wr) (fun vk _ => (intOf vk + 1).toNat)
    case atStart => exact ⟨0, Nat.zero_le _, by go_num, OR'.out, OQ.out, B2.out⟩
    case round =>
      obtain ⟨j, hj, rfl, hol, hoq, hb⟩ := hrel
      have L := hide hol
      have Qo := hide hoq
      have B := hide hb
      clear hol hoq hb
      by_cases hjm : j ≤ m
      · obtain ⟨k, hk⟩ : ∃ k, m = j + k := ⟨m - j, by omega⟩
        have hkm : m - j = k := by omega
        have e0 : (m : Int) - (j : Int) = (k : Int) := by omega
        rw [e0]
        have hkx : k + ys.length ≤ xs.length := by have := EM.out; omega
        have HK := hide hkm
        have HM := hide hk
        clear hk hkm e0
        obtain ⟨y, hy⟩ : ∃ y, y = (dv (nat xs) (nat ys) m xs.length j).1.getD (k + ys.length - 1) 0 := ⟨_, rfl⟩
        have hy256 : y < 256 := by rw [hy]; exact dv_lt1 (nat_ltp GX.out) j _
        have hc1 := own_cell L.out (k + ys.length - 1) (by rw [dv_len1, nat_length]; omega)
        rw [← hy] at hc1
        have hc2 := Qo.out.frozenAt k
        have hc3 := own_cell Qo.out k (by rw [dv_len2]; omega)
        obtain ⟨old, hold⟩ : ∃ old : Int, old = ((dv (nat xs) (nat ys) m xs.length j).2.getD k 0 : Nat) := ⟨_, rfl⟩
        rw [← hold] at hc3
        have hd : Hid (mul y (inv t) = dq (dv (nat xs) (nat ys) m xs.length j).1 (nat ys) k) := by
          show mul y (inv t) = _
          unfold dq
          rw [nat_length, ← hy, HTop.out]
        have hd256 : mul y (inv t) < 256 := mul_lt hy256
        clear hy hold
        have g1 : ((k : Int) + (ys.length : Int) - 1).toNat = k + ys.length - 1 := by omega
        have g2 : (0 : Int) ≤ (k : Int) + (ys.length : Int) - 1 := by omega
        have g3 : (k : Int) + (ys.length : Int) - 1 < (xs.length : Int) := by omega
        have g4 : (k : Int) < (xs.length : Int) := by omega
        obtain ⟨d, hdd⟩ : ∃ d, d = mul y (inv t) := ⟨_, rfl⟩
        have hdl : d < 256 := by rw [hdd]; exact hd256
        have HD := hide hdd
        clear hdd hd256
        go_wp2_with fail
        refine (l1Div_calls _ _ _ (by omega) (by omega) (by omega) (by omega)).mono ?_
        simp only [Int.toNat_natCast]
        rw [← HD.out]
        rintro e w4 ⟨rfl, rfl⟩
        have hne : (Value.slice (some ⟨g, 0, none⟩) xs.length cap).ownBlock ≠ some w1.heap.size := by simp [Value.ownBlock]; omega
        have L1 := hide (ownsRow_setCell_other L.out (a := ⟨w1.heap.size, k, none⟩) hne (.int .i64 (d : Nat)))
        have Q1 : Hid ((wr.setCell ⟨w1.heap.size, k, none⟩ (.int .i64 (d : Nat))).ownsRow w1.heap.size 3 1 (.slice (some ⟨w1.heap.size, 0, none⟩) xs.length xs.length) xs.length ((ci (dv (nat xs) (nat ys) m xs.length (j + 1)).2).map (Value.int .i64))) := by
          have h := (Qo.out.stored k (.int .i64 (d : Nat))).1
          rw [← List.map_set, ci_set] at h
          have e : (dv (nat xs) (nat ys) m xs.length (j + 1)).2 = (dv (nat xs) (nat ys) m xs.length j).2.set k d := by
            simp only [dv]
            rw [HK.out, HD.out, hd.out]
          rw [e]
          exact h
        have B1 : Hid (Below w.heap.size w (wr.setCell ⟨w1.heap.size, k, none⟩ (.int .i64 (d : Nat)))) := B.out.setCell (by exact hlt1) _
        have E1 : Hid ((dv (nat xs) (nat ys) m xs.length (j + 1)).1 = amTo (dv (nat xs) (nat ys) m xs.length j).1 (nat ys) d k ys.length) := by
          show _ = _
          simp only [dv]
          rw [HK.out, HD.out, hd.out, nat_length]
        go_wp2
        go_loopw [64] (fun vi wi => ∃ i : Nat, i ≤ ys.length ∧ vi = .int .i64 i ∧
            wi.ownsRow w.heap.size 3 1 (.slice (some ⟨g, 0, none⟩) xs.length cap) xs.length ((ci (amTo (dv (nat xs) (nat ys) m xs.length j).1 (nat ys) d k i)).map (Value.int .i64)) ∧
            wi.ownsRow w1.heap.size 3 1 (.slice (some ⟨w1.heap.size, 0, none⟩) xs.length xs.length) xs.length ((ci (dv (nat xs) (nat ys) m xs.length (j + 1)).2).map (Value.int .i64)) ∧ Below w.heap.size w wi) (fun vi _ => ys.length - (intOf vi).toNat)
        case atStart => exact ⟨0, Nat.zero_le _, rfl, L1.out, Q1.out, B1.out⟩
        case round =>
          obtain ⟨i, hi, rfl, hol, hoq, hb⟩ := hrel
          by_cases hli : i < ys.length
          · have hcq := (hb.cell (p := ⟨qb, qoff + i, none⟩) hqs).trans (QC.out i hli)
            obtain ⟨Z, hZ⟩ : ∃ Z, Z = (nat ys).getD i 0 := ⟨_, rfl⟩
            have hZy : ys.getD i 0 = (Z : Int) := by
              have := ci_getD (nat ys) i
              rw [ci_natp GY.out] at this
              rw [this, hZ]
            have hZ256 : Z < 256 := by have := AY.out i hli; omega
            rw [hZy] at hcq
            have HZ := hide hZ
            clear hZ hZy
            have hki : k + i < xs.length := by omega
            have hcf := hol.frozenAt (k + i)
            obtain ⟨u, hu⟩ : ∃ u, u = (amTo (dv (nat xs) (nat ys) m xs.length j).1 (nat ys) d k i).getD (k + i) 0 := ⟨_, rfl⟩
            have hu256 : u < 256 := by
              rw [hu]
              exact amTo_lt (dv_lt1 (nat_ltp GX.out) j) hdl i _
            have hcu := own_cell hol (k + i) (by rw [amTo_length, dv_len1, nat_length]; exact hki)
            rw [← hu] at hcu
            have HU := hide hu
            clear hu
            have O2 := hide hol
            have Q2 := hide hoq
            have B3 := hide hb
            clear hol hoq hb
            have k1 : ((k : Int) + (i : Int)).toNat = k + i := by omega
            have k2 : (0 : Int) ≤ (k : Int) + (i : Int) := by omega
            have k3 : (k : Int) + (i : Int) < (xs.length : Int) := by omega
            have k4 : (i : Int) < (ys.length : Int) := by omega
            have k5 : IntKind.i64.wrap ((k : Int) + (i : Int)) = (k : Int) + (i : Int) := by rw [wrap_i64]; omega
            go_wp2
            go_region_with (go_at_call 128; refine (l1Mul_calls _ _ _ (by omega) (by omega) (by omega) (by omega)).mono ?_; rintro e w' ⟨rfl, rfl⟩)
            all_goals
              go_wp2
              go_roundw
              case rel =>
                refine ⟨i + 1, by omega, by go_num, ?_, ?_, ?_⟩
                · have h := (O2.out.stored (k + i) (.int .i64 (u ^^^ mul d Z : Nat))).1
                  rw [← List.map_set, ci_set, HU.out, HZ.out] at h
                  rw [i64_xor _ _ (by omega) (by have := mul_lt (a := d) (b := Z) (by omega); omega), HU.out, HZ.out]
                  exact h.drew
                · exact (ownsRow_setCell_other Q2.out (a := ⟨g, k + i, none⟩) (by simp [Value.ownBlock]; omega) _).drew
                · exact (B3.out.setCell (by exact hg1) _).drew
              case measure => simp [intOf]; omega
          · obtain rfl : i = ys.length := by omega
            have O2 := hide (And.intro hol (And.intro hoq hb))
            clear hol hoq hb
            go_wp2
            go_roundw
            case rel =>
              refine ⟨j + 1, by omega, int_eq (by have := HM.out; omega), ?_, O2.out.2.1, O2.out.2.2⟩
              rw [E1.out]
              exact O2.out.1
            case measure => simp [intOf]
      · obtain rfl : j = m + 1 := by omega
        have e0 : (m : Int) - ((m + 1 : Nat) : Int) = -1 := by omega
        rw [e0]
        have HL : Hid (Own wr w.heap.size (.slice (some ⟨g, 0, none⟩) xs.length cap) (ci (dv (nat xs) (nat ys) m xs.length (m + 1)).1)) := by
          show World.ownsRow _ _ _ _ _ (ci _).length _
          rw [ci_length, dv_len1, nat_length]
          exact L.out
        have HQ : Hid (Own wr w1.heap.size (.slice (some ⟨w1.heap.size, 0, none⟩) xs.length xs.length) (ci (dv (nat xs) (nat ys) m xs.length (m + 1)).2)) := by
          show World.ownsRow _ _ _ _ _ (ci _).length _
          rw [ci_length, dv_len2]
          exact Qo.out
        go_wp2_with fail
        refine (l1Cut_calls _ _ _ HQ.out.rd (by rw [ci_length, dv_len2]; omega)).mono ?_
        rintro e w3 ⟨v1, rfl, ho3, hb3⟩
        have O3 := hide ho3
        have B3 := hide hb3
        have R3 := hide (Own.below HL.out hb3)
        clear ho3 hb3
        go_wp2_with fail
        refine (l1Cut_calls _ _ _ R3.out.rd (by rw [ci_length, dv_len1, nat_length]; omega)).mono ?_
        rintro e w4 ⟨v2, rfl, ho4, hb4⟩
        have R : Hid (Two w w4 v1 v2 (cutL (ci (dv (nat xs) (nat ys) m xs.length (m + 1)).2)) (cutL (ci (dv (nat xs) (nat ys) m xs.length (m + 1)).1))) := by
          refine ⟨Own.mono (Own.below O3.out hb4) B.out.size, Own.mono ho4 (Nat.le_trans B.out.size B3.out.size), ?_, (B.out.trans (B3.out.mono B.out.size)).trans (hb4.mono (Nat.le_trans B.out.size B3.out.size))⟩
          cases hv : v1.ownBlock with
          | none => exact .inl rfl
          | some k =>
            right
            intro e
            have h1 := (O3.out.lt k hv).2
            have h2 := (ho4.lt k e.symm).1
            omega
        clear ho4 hb4
        go_wp2
        go_ret3
        exact ⟨_, _, rfl, R.out⟩
end Gf
end Go.Proofs.YtogopakmebiomaaDoor

namespace Go.Proofs.YtogopakmebiomaaDoor
open Go.RowKit
namespace Gf

theorem divPoly_calls (pv qv : Value) (xs ys : List Int) (w : World) (hT : Tab w) (hp : Rd w pv xs) (hq : Rd w qv ys) :
    Calls Tryd.prog 74 #[pv, qv] w fun e w' => ∃ v1 v2, e = .returned (.tuple #[v1, v2, .bool (divR xs ys).2.2]) ∧ Two w w' v1 v2 (divR xs ys).1 (divR xs ys).2.1 := by
  by_cases h : goodP xs = true ∧ goodP ys = true ∧ ys.length ≠ 0
  · by_cases hs : xs.length < ys.length
    · rw [divR_short h.1 h.2.1 h.2.2 hs]
      exact (divPoly_short pv qv xs ys w hp hq h.1 h.2.1 h.2.2 hs).mono fun e w' ⟨v2, he, ho, hb⟩ => ⟨_, v2, he, Two.nil1 ho hb⟩
    · rw [divR_yes h.1 h.2.1 h.2.2 hs]
      exact divPoly_yes pv qv xs ys w hT hp hq h.1 h.2.1 h.2.2 hs
  · rw [divR_no h]
    exact (divPoly_no pv qv xs ys w hp hq h).mono fun e w' ⟨he, hw⟩ => ⟨_, _, he, hw ▸ Two.nil1 (own_nil _ _) (Below.refl _ _)⟩
theorem sDivPoly_calls (pv qv : Value) (xs ys : List Int) (w : World) (hp : Rd w pv xs) (hq : Rd w qv ys) :
    Calls Tryd.prog 70 #[pv, qv] w fun e w' => ∃ v1 v2, e = .returned (.tuple #[v1, v2, .bool (divR xs ys).2.2]) ∧ Two w w' v1 v2 (divR xs ys).1 (divR xs ys).2.1 := by
  by_cases h : goodP xs = true ∧ goodP ys = true ∧ ys.length ≠ 0
  · have hy := sDivPoly_yes pv qv xs ys w hp hq h.1 h.2.1 h.2.2
    by_cases hs : xs.length < ys.length
    · rw [divR_short h.1 h.2.1 h.2.2 hs]
      have e : steps xs ys = 0 := by unfold steps; rw [if_pos hs]
      rw [e] at hy
      have e1 : cutL (ci (dv (nat xs) (nat ys) (xs.length - ys.length) xs.length 0).2) = [] := cutL_zeros _
      have e2 : ci (dv (nat xs) (nat ys) (xs.length - ys.length) xs.length 0).1 = xs := ci_natp (goodP_mem h.1)
      rw [e1, e2] at hy
      exact hy
    · rw [divR_yes h.1 h.2.1 h.2.2 hs]
      have h0 : 0 < ys.length := by omega
      have e : steps xs ys = xs.length - ys.length + 1 := by unfold steps; rw [if_neg hs]
      rw [e, cut_dv h.1 h.2.1 h0 (by omega), dv_same1 h0 (by omega)] at hy
      exact hy
  · rw [divR_no h]
    exact (sDivPoly_no pv qv xs ys w hp hq h).mono fun e w' ⟨he, hw⟩ => ⟨_, _, he, hw ▸ Two.nil1 (own_nil _ _) (Below.refl _ _)⟩
end Gf
end Go.Proofs.YtogopakmebiomaaDoor

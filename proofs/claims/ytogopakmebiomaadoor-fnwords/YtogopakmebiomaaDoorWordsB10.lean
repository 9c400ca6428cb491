/-
  The word of a message: the program's EncodeWord and its model's, call by call. The program's table of rests must hold its seven numbers where the program's own functions are called. The word of a message: the model's EncodeWord, call by call. No condition. Whether all syndromes of a word are noughts: the program's IsWord and its model's, call by call. The program's table of rests must hold its seven numbers where the program's own function is called. Words of a code are far apart: two that have the same syndromes are alike, or unlike at more places than there are syndromes; what EncodeWord tells has noughts for syndromes. Plain mathematics over the functions' answers. No condition. Unlike elements: plain mathematics. No call is walked here. Lists of rows put together: what the outer list's cells hold, a copy of such cells, rows behind rows. Each theorem says what it asks.
-/
import Derived.Test.YtogopakmebiomaaDoorWordsB9
import Derived.Test.YtogopakmebiomaaDoorWordsB7
import Derived.Test.YtogopakmebiomaaDoorWordsB8
import Derived.Test.YtogopakmebiomaaDoorWordsB4
import Derived.Test.YtogopakmebiomaaDoorWordsB0
import Derived.Test.YtogopakmebiomaaDoorWordsB5
namespace Go.Proofs.YtogopakmebiomaaDoor
open Go.RowKit

theorem spl_twoW (N : Nat) (fs bs : List Int) (h : N = fs.length + bs.length) : spl (spl (List.replicate N 0) 0 fs) fs.length bs = fs ++ bs := by
  subst h
  simp [spl]
set_option maxRecDepth 100000 in
set_option maxHeartbeats 800000 in
theorem joinInts_calls (fv bv : Value) (fs bs : List Int) (w : World) (hf : Rd w fv fs) (hb : Rd w bv bs) (hn1 : fs.length ≤ 4096) (hn2 : bs.length ≤ 4096) (h1 : 0 < fs.length) (h0 : 0 < bs.length) :
    Calls Tryd.prog 73 #[fv, bv] w fun e w' => ∃ N, N = fs.length + bs.length ∧ e = .returned (.slice (some ⟨w.heap.size, 0, none⟩) N N) ∧ Own w' w.heap.size (.slice (some ⟨w.heap.size, 0, none⟩) N N) (fs ++ bs) ∧ Below w.heap.size w w' := by
  have F := hide hf
  have G := hide hb
  obtain ⟨fa, fcap, rfl, _⟩ := hf
  obtain ⟨ba, bcap, rfl, _⟩ := hb
  obtain ⟨N, hN⟩ : ∃ N, N = fs.length + bs.length := ⟨_, rfl⟩
  have HN := hide hN
  have hN1 : fs.length < N := by omega
  have hN2 : N ≤ 8192 := by omega
  have HN3 : Hid (((fs.length : Int) + (bs.length : Int)) = (N : Int)) := by show ((fs.length : Int) + (bs.length : Int)) = (N : Int); omega
  have hN4 : Hid (fs.length + bs.length ≤ N) := by show fs.length + bs.length ≤ N; omega
  clear hN
  go_enter Tryd.func73, Tryd.ntmps73
  go_wp2_with (at_make; refine wpList_make_ints rfl _ _ rfl w.heap.size _ _ N rfl rfl HN3.out HN3.out (by omega) (Nat.le_refl _) ?_)
  intro w0 ho0 hg0
  have hb0 : Below w.heap.size w w0 := (Below.refl _ _).grown hg0 (Nat.le_refl _) (fun k h => by cases h)
  have O0 := hide ho0
  have B0 := hide hb0
  clear hg0 ho0 hb0
  go_wp2_with (refine wpList_copy_at rfl (.tmp 12) (.tmp 13) rfl w.heap.size w.heap.size N 0 N N _ _ _ (List.replicate N 0) fs rfl rfl O0.out (F.out.below B0.out) h1 (by omega) (by rw [List.length_replicate]; omega) ?_)
  intro w1 ho1 hg1
  have hb1 : Below w.heap.size w w1 := B0.out.grown hg1 B0.out.size (fun k hk => by cases hk; exact Nat.le_refl _)
  have O1 := hide ho1
  have B1 := hide hb1
  have i0 : (0 : Int) ≤ (fs.length : Int) := by omega
  have i1 : (fs.length : Int) ≤ (N : Int) := by omega
  have i3 : ¬ (N = fs.length) := by omega
  clear ho1 hg1 hb1
  go_wp2_with (refine wpList_copy_at rfl (.tmp 18) (.tmp 19) rfl w.heap.size w.heap.size N fs.length (N - fs.length) (N - fs.length) _ _ _ (spl (List.replicate N 0) 0 fs) bs rfl rfl O1.out (G.out.below B1.out) h0 (by have := hN4.out; omega) (by rw [spl_length _ _ _ (by rw [List.length_replicate]; omega), List.length_replicate]; exact hN4.out) ?_)
  intro w2 ho2 hg2
  have hb2 : Below w.heap.size w w2 := B1.out.grown hg2 B1.out.size (fun k hk => by cases hk; exact Nat.le_refl _)
  rw [spl_twoW N fs bs HN.out] at ho2
  have O2 := hide ho2
  have B2 := hide hb2
  clear ho2 hg2 hb2
  go_wp2
  go_ret
  exact ⟨N, HN.out, rfl, O2.out, B2.out⟩
namespace Gf

def meOk (xs : List Int) (t : Int) : Bool := wOk t && decide (1 ≤ xs.length) && decide ((xs.length : Int) ≤ 24 - 2 * t) && xs.all elOk
theorem meOk_yes {xs : List Int} {t : Int} (h : meOk xs t = true) : wOk t = true ∧ 1 ≤ xs.length ∧ (xs.length : Int) ≤ 24 - 2 * t ∧ xs.all elOk = true := by
  simp only [meOk, Bool.and_eq_true, decide_eq_true_eq] at h
  exact ⟨h.1.1.1, h.1.1.2, h.1.2, h.2⟩
theorem meOk_mk {xs : List Int} {t : Int} (h1 : wOk t = true) (h2 : 1 ≤ xs.length) (h3 : (xs.length : Int) ≤ 24 - 2 * t) (h4 : xs.all elOk = true) : meOk xs t = true := by
  simp only [meOk, Bool.and_eq_true, decide_eq_true_eq]
  exact ⟨⟨⟨h1, h2⟩, h3⟩, h4⟩
theorem meOk_no {xs : List Int} {t : Int} (h : ¬ (wOk t = true ∧ 1 ≤ xs.length ∧ (xs.length : Int) ≤ 24 - 2 * t ∧ xs.all elOk = true)) : meOk xs t = false := by
  cases hh : meOk xs t with
  | false => rfl
  | true => exact absurd (meOk_yes hh) h
/-- Noughts for the checks, then the message. -/
def rawW (xs : List Int) (n : Nat) : List Int := List.replicate (2 * n) 0 ++ xs
theorem rawW_length (xs : List Int) (n : Nat) : (rawW xs n).length = 2 * n + xs.length := by simp [rawW]
theorem rawW_all {xs : List Int} (n : Nat) (h : xs.all elOk = true) : (rawW xs n).all elOk = true := by
  rw [rawW, List.all_append, h, Bool.and_true, List.all_eq_true]
  intro x hx
  rw [(List.mem_replicate.1 hx).2]
  rfl
/-- What is left when the generator divides. -/
def restW (xs : List Int) (n : Nat) : List Int := (divR (cutL (rawW xs n)) (genI (2 * n))).2.1
def wordW (xs : List Int) (n : Nat) : List Int := spl (rawW xs n) 0 (restW xs n)
theorem div_ok {xs : List Int} {n : Nat} (hn : n ≤ 3) (he : xs.all elOk = true) (hl : xs.length ≤ 24) : (divR (cutL (rawW xs n)) (genI (2 * n))).2.2 = true := by
  have g := gen_facts (k := 2 * n) (by omega)
  have c := cut_good (rawW_all n he) (by rw [rawW_length]; omega)
  by_cases hs : (cutL (rawW xs n)).length < (genI (2 * n)).length
  · rw [divR_short c g.1 (by rw [g.2]; omega) hs]
  · rw [divR_yes c g.1 (by rw [g.2]; omega) hs]
theorem rest_len {xs : List Int} {n : Nat} (hn : n ≤ 3) (he : xs.all elOk = true) (hl : xs.length ≤ 24) : (restW xs n).length ≤ 2 * n := by
  have := (div_facts (div_ok hn he hl)).2.2.2.2.1
  rw [(gen_facts (k := 2 * n) (by omega)).2] at this
  show (restW xs n).length ≤ _
  unfold restW
  omega
theorem rest_good {xs : List Int} {n : Nat} (hn : n ≤ 3) (he : xs.all elOk = true) (hl : xs.length ≤ 24) : goodP (restW xs n) = true := (div_facts (div_ok hn he hl)).2.2.2.1
theorem wordW_length {xs : List Int} {n : Nat} (hn : n ≤ 3) (he : xs.all elOk = true) (hl : xs.length ≤ 24) : (wordW xs n).length = 2 * n + xs.length := by
  have := rest_len hn he hl
  unfold wordW
  rw [spl_length _ _ _ (by rw [rawW_length]; omega), rawW_length]
def encW (xs : List Int) (t : Int) : List Int × Bool := if meOk xs t = true then (wordW xs t.toNat, true) else ([], false)
theorem encW_yes {xs : List Int} {t : Int} (h : meOk xs t = true) : encW xs t = (wordW xs t.toNat, true) := if_pos h
theorem encW_no {xs : List Int} {t : Int} (h : meOk xs t = false) : encW xs t = ([], false) := if_neg (by rw [h]; decide)
theorem encW_len (xs : List Int) (t : Int) : (encW xs t).1.length ≤ 1048576 := by
  unfold encW
  split
  next h =>
    obtain ⟨h1, h2, h3, h4⟩ := meOk_yes h
    have := wOk_iff.1 h1
    show (wordW xs t.toNat).length ≤ _
    rw [wordW_length (by omega) h4 (by omega)]
    omega
  next => show 0 ≤ _; omega
set_option maxRecDepth 100000 in
set_option maxHeartbeats 3200000 in
theorem encodeWord_no (v : Value) (xs : List Int) (t : Int) (w : World) (hT : Tab w) (h : Rd w v xs) (hw : meOk xs t = false) :
    Calls Tryd.prog 20 #[v, .int .i64 t] w fun e w' => e = .returned (.tuple #[.slice none 0 0, .bool false]) ∧ Below w.heap.size w w' := by
  have R := hide h
  have T := hide hT
  clear hT
  obtain ⟨a, cap, rfl, _, _, _⟩ := h
  cases h1 : wOk t with
  | false =>
    have G := hide (genR_no h1)
    clear h1 hw
    go_enter Tryd.func20, Tryd.ntmps20
    go_wp2_with fail
    refine (generatorOf_calls t _ T.out).mono ?_
    rw [G.out]
    rintro e w1 ⟨v1, rfl, ho1, hb1⟩
    have B1 := hide hb1
    clear ho1 hb1
    go_wp2
    go_ret2
    exact ⟨rfl, B1.out⟩
  | true =>
    obtain ⟨q1, q3⟩ := wOk_iff.1 h1
    obtain ⟨n, rfl⟩ := Int.eq_ofNat_of_zero_le (a := t) (by omega)
    have G := hide (genR_yes h1)
    by_cases h2 : 1 ≤ xs.length
    case neg =>
      have h2' : (xs.length : Int) < 1 := by omega
      clear h1 hw h2
      go_enter Tryd.func20, Tryd.ntmps20
      go_wp2_with fail
      refine (generatorOf_calls _ _ T.out).mono ?_
      rw [G.out]
      rintro e w1 ⟨v1, rfl, ho1, hb1⟩
      have B1 := hide hb1
      clear ho1 hb1
      go_wp2
      go_ret2
      exact ⟨rfl, B1.out⟩
    have h2' : ¬ (xs.length : Int) < 1 := by omega
    by_cases h3 : (xs.length : Int) ≤ 24 - 2 * (n : Int)
    case neg =>
      have h3' : (24 : Int) - ((2 * n : Nat) : Int) < (xs.length : Int) := by omega
      clear h1 hw h2 h3
      go_enter Tryd.func20, Tryd.ntmps20
      go_wp2_with fail
      refine (generatorOf_calls _ _ T.out).mono ?_
      rw [G.out]
      rintro e w1 ⟨v1, rfl, ho1, hb1⟩
      have B1 := hide hb1
      clear ho1 hb1
      go_wp2_with fail
      refine (checksOf_calls n _ (by omega)).mono ?_
      rintro e w' ⟨rfl, rfl⟩
      go_wp2
      go_ret2
      exact ⟨rfl, B1.out⟩
    have h3' : ¬ (24 : Int) - ((2 * n : Nat) : Int) < (xs.length : Int) := by omega
    have h4 : xs.all elOk = false := by
      cases hh : xs.all elOk with
      | false => rfl
      | true => rw [meOk_mk h1 h2 h3 hh] at hw; cases hw
    have E := hide h4
    clear h1 hw h2 h3 h4
    go_enter Tryd.func20, Tryd.ntmps20
    go_wp2_with fail
    refine (generatorOf_calls _ _ T.out).mono ?_
    rw [G.out]
    rintro e w1 ⟨v1, rfl, ho1, hb1⟩
    have B1 := hide hb1
    clear ho1 hb1
    go_wp2_with fail
    refine (checksOf_calls n _ (by omega)).mono ?_
    rintro e w' ⟨rfl, rfl⟩
    go_wp2_with fail
    refine (areElements_calls _ xs _ (R.out.below B1.out)).mono ?_
    rw [E.out]
    rintro e w' ⟨rfl, rfl⟩
    go_wp2
    go_ret2
    exact ⟨rfl, B1.out⟩

set_option maxRecDepth 100000 in
set_option maxHeartbeats 3200000 in
theorem encodeWord_calls (v : Value) (xs : List Int) (t : Int) (w : World) (hT : Tab w) (h : Rd w v xs) :
    Calls Tryd.prog 20 #[v, .int .i64 t] w fun e w' => ∃ v', e = .returned (.tuple #[v', .bool (encW xs t).2]) ∧ Own w' w.heap.size v' (encW xs t).1 ∧ Below w.heap.size w w' := by
  cases hw : meOk xs t with
  | false =>
    rw [encW_no hw]
    refine (encodeWord_no v xs t w hT h hw).mono ?_
    rintro e w' ⟨rfl, hb⟩
    exact ⟨_, rfl, own_nil _ _, hb⟩
  | true =>
    rw [encW_yes hw]
    have T := hide hT
    have R := hide h
    obtain ⟨a, cap, rfl, _, _, _⟩ := h
    obtain ⟨h1, h2, h3, h4⟩ := meOk_yes hw
    obtain ⟨q1, q3⟩ := wOk_iff.1 h1
    obtain ⟨n, rfl⟩ := Int.eq_ofNat_of_zero_le (a := t) (by omega)
    rw [Int.toNat_natCast]
    have G := hide (genR_yes h1)
    have E := hide h4
    have h2' : ¬ (xs.length : Int) < 1 := by omega
    have h3' : ¬ (24 : Int) - ((2 * n : Nat) : Int) < (xs.length : Int) := by omega
    have hl : xs.length ≤ 24 := by omega
    clear hw hT h1 h4
    go_enter Tryd.func20, Tryd.ntmps20
    go_wp2_with fail
    refine (generatorOf_calls _ _ T.out).mono ?_
    rw [G.out, Int.toNat_natCast]
    rintro e w1 ⟨v1, rfl, ho1, hb1⟩
    have RG := hide ho1.rd
    have B1 := hide hb1
    clear ho1 hb1
    go_wp2_with fail
    refine (checksOf_calls n _ (by omega)).mono ?_
    rintro e w' ⟨rfl, rfl⟩
    go_wp2_with fail
    refine (areElements_calls _ xs _ (R.out.below B1.out)).mono ?_
    rw [E.out]
    rintro e w' ⟨rfl, rfl⟩
    go_wp2_with fail
    refine (checksOf_calls n _ (by omega)).mono ?_
    rintro e w' ⟨rfl, rfl⟩
    go_wp2_with (at_make; refine wpList_make_ints rfl _ _ rfl w1.heap.size _ _ (2 * n) rfl rfl (by omega) (by omega) (by omega) (Nat.le_refl _) ?_)
    intro w2 ho2 hg2
    have R2 := hide ho2.rd
    have B2 := hide ((Below.refl w1.heap.size w1).grown hg2 (Nat.le_refl _) (fun k h => by cases h))
    clear ho2 hg2
    go_wp2_with fail
    refine (joinInts_calls _ _ (List.replicate (2 * n) 0) xs _ R2.out ((R.out.below B1.out).below B2.out) (by rw [List.length_replicate]; omega) (by omega) (by rw [List.length_replicate]; omega) (by omega)).mono ?_
    rintro e w3 ⟨N, hN, rfl, ho3, hb3⟩
    have hN' : N = 2 * n + xs.length := by rw [hN, List.length_replicate]
    have O3 := hide (show Own w3 w2.heap.size _ (rawW xs n) from ho3)
    have B3 := hide hb3
    have HN := hide hN'
    have hN30 : N ≤ 30 := by omega
    clear ho3 hb3 hN hN'
    go_wp2_with fail
    refine (without_calls _ (rawW xs n) _ O3.out.rd (by rw [rawW_length]; omega)).mono ?_
    rintro e w4 ⟨v4, rfl, ho4, hb4⟩
    have R4 := hide ho4.rd
    have O4 := hide (O3.out.below hb4)
    have B4 := hide hb4
    have s1 := B1.out.size
    have s2 := B2.out.size
    have s3 := B3.out.size
    have s4 := hb4.size
    clear ho4 hb4 O3
    go_wp2_with fail
    refine (divPoly_calls _ _ (cutL (rawW xs n)) (genI (2 * n)) _ ((((T.out.below B1.out).below B2.out).below B3.out).below B4.out) R4.out (((RG.out.below B2.out).below B3.out).below B4.out)).mono ?_
    rintro e w5 ⟨v5, v6, rfl, ho5, ho6, _, hb5⟩
    have O5 := hide (O4.out.below hb5)
    have R6 := hide (show Rd w5 v6 (restW xs n) from ho6.rd)
    have B5 : Hid (Below w2.heap.size w2 w5) := (B3.out.trans (B4.out.mono s3)).trans (hb5.mono (by omega))
    have hrl := rest_len (n := n) (by omega) E.out hl
    have s5 := hb5.size
    clear ho5 ho6 hb5 O4 R4
    have fin : ∀ w6, Own w6 w2.heap.size (.slice (some ⟨w2.heap.size, 0, none⟩) N N) (wordW xs n) → Below w2.heap.size w2 w6 → Own w6 w.heap.size (.slice (some ⟨w2.heap.size, 0, none⟩) N N) (wordW xs n) ∧ Below w.heap.size w w6 := fun w6 h1 h2 =>
      ⟨h1.mono (by omega), B1.out.trans ((B2.out.mono s1).trans (h2.mono (by omega)))⟩
    have FIN := hide fin
    clear fin
    by_cases h0 : (restW xs n).length = 0
    · have he : restW xs n = [] := List.eq_nil_of_length_eq_zero h0
      have O6 : Hid (Own w5 w2.heap.size (.slice (some ⟨w2.heap.size, 0, none⟩) N N) (wordW xs n)) := by
        have : wordW xs n = rawW xs n := by unfold wordW; rw [he]; simp [spl]
        rw [this]; exact O5.out
      obtain ⟨a6, c6, rfl, _, _, _⟩ := R6.out
      rw [h0]
      clear he
      go_wp2_with (refine wpList_copy_nothing rfl (.tmp 50) (.tmp 51) 22 22 rfl 3 Tryd.underlying22 infoSize _ _ _ _ 0 _ rfl rfl (by simp) ?_)
      go_wp2
      go_ret2
      exact ⟨_, rfl, FIN.out _ O6.out B5.out⟩
    · obtain ⟨a6, c6, rfl, _, _, _⟩ := R6.out
      go_wp2_with (refine wpList_copy_at rfl (.tmp 50) (.tmp 51) rfl w2.heap.size w2.heap.size N 0 N N _ _ _ (rawW xs n) (restW xs n) rfl rfl O5.out R6.out (by omega) (by have := HN.out; omega) (by rw [rawW_length]; omega) ?_)
      intro w6 ho6 hg6
      have O6 := hide (show Own w6 w2.heap.size (.slice (some ⟨w2.heap.size, 0, none⟩) N N) (wordW xs n) from ho6)
      have B6 : Hid (Below w2.heap.size w2 w6) := B5.out.grown hg6 B5.out.size (fun k hk => by cases hk; exact Nat.le_refl _)
      clear ho6 hg6
      go_wp2
      go_ret2
      exact ⟨_, rfl, FIN.out _ O6.out B6.out⟩
end Gf
end Go.Proofs.YtogopakmebiomaaDoor

namespace Go.Proofs.YtogopakmebiomaaDoor
open Go.RowKit
namespace Gf

theorem spl_zero (raw : List Int) : spl raw 0 (([] : List Int).take 0) = raw := by simp [spl]
theorem spl_step {raw rest : List Int} {k : Nat} (hk : k < rest.length) (hl : rest.length ≤ raw.length) : (spl raw 0 (rest.take k)).set k (rest.getD k 0) = spl raw 0 (rest.take (k + 1)) := by
  have e1 : (rest.take k).length = k := by rw [List.length_take]; omega
  have e2 : (rest.take (k + 1)).length = k + 1 := by rw [List.length_take]; omega
  unfold spl
  rw [List.take_zero, List.nil_append, List.nil_append, e1, e2, Nat.zero_add, Nat.zero_add, List.set_append_right _ _ (by omega), e1, Nat.sub_self, List.drop_eq_getElem_cons (show k < raw.length by omega), List.set_cons_zero, take_snoc2 rest k hk, List.append_assoc]
  rfl

set_option maxRecDepth 100000 in
set_option maxHeartbeats 3200000 in
theorem sEncodeWord_no (v : Value) (xs : List Int) (t : Int) (w : World) (h : Rd w v xs) (hw : meOk xs t = false) :
    Calls Tryd.prog 18 #[v, .int .i64 t] w fun e w' => e = .returned (.tuple #[.slice none 0 0, .bool false]) ∧ w = w' := by
  have R := hide h
  obtain ⟨a, cap, rfl, g1, g2, _⟩ := h
  have hm : xs.length ≤ maxLen := by omega
  unfold maxLen at hm
  clear g1 g2
  cases h1 : wOk t with
  | false =>
    have G := hide h1
    clear h1 hw
    go_enter Tryd.func18, Tryd.ntmps18
    go_wp2_with fail
    refine (l4Wrong_calls t _).mono ?_
    rw [G.out]
    rintro e w' ⟨rfl, rfl⟩
    go_wp2
    go_ret2
    exact ⟨rfl, rfl⟩
  | true =>
    obtain ⟨q1, q3⟩ := wOk_iff.1 h1
    have G := hide h1
    by_cases h2 : 1 ≤ (xs.length : Int) ∧ (xs.length : Int) ≤ 24 - 2 * t
    case neg =>
      have D := hide (decide_eq_false h2)
      clear h1 hw h2
      go_enter Tryd.func18, Tryd.ntmps18
      go_wp2_with fail
      refine (l4Wrong_calls t _).mono ?_
      rw [G.out]
      rintro e w' ⟨rfl, rfl⟩
      go_wp2_with fail
      refine (l1In_calls _ _ _ _).mono ?_
      rw [D.out]
      rintro e w' ⟨rfl, rfl⟩
      go_wp2
      go_ret2
      exact ⟨rfl, rfl⟩
    have h4 : xs.all elOk = false := by
      cases hh : xs.all elOk with
      | false => rfl
      | true => rw [meOk_mk h1 (by omega) h2.2 hh] at hw; cases hw
    have E := hide h4
    have D := hide (decide_eq_true h2)
    clear h1 hw h2 h4
    go_enter Tryd.func18, Tryd.ntmps18
    go_wp2_with fail
    refine (l4Wrong_calls t _).mono ?_
    rw [G.out]
    rintro e w' ⟨rfl, rfl⟩
    go_wp2_with fail
    refine (l1In_calls _ _ _ _).mono ?_
    rw [D.out]
    rintro e w' ⟨rfl, rfl⟩
    go_wp2_with fail
    refine (l1All_calls _ xs _ R.out).mono ?_
    rw [E.out]
    rintro e w' ⟨rfl, rfl⟩
    go_wp2
    go_ret2
    exact ⟨rfl, rfl⟩

set_option maxRecDepth 100000 in
set_option maxHeartbeats 3200000 in
theorem sEncodeWord_calls (v : Value) (xs : List Int) (t : Int) (w : World) (h : Rd w v xs) :
    Calls Tryd.prog 18 #[v, .int .i64 t] w fun e w' => ∃ v', e = .returned (.tuple #[v', .bool (encW xs t).2]) ∧ Own w' w.heap.size v' (encW xs t).1 ∧ Below w.heap.size w w' := by
  cases hw : meOk xs t with
  | false =>
    rw [encW_no hw]
    refine (sEncodeWord_no v xs t w h hw).mono ?_
    rintro e w' ⟨rfl, rfl⟩
    exact ⟨_, rfl, own_nil _ _, Below.refl _ _⟩
  | true =>
    rw [encW_yes hw]
    have R := hide h
    obtain ⟨a, cap, rfl, _, _, _⟩ := h
    obtain ⟨h1, h2, h3, h4⟩ := meOk_yes hw
    obtain ⟨q1, q3⟩ := wOk_iff.1 h1
    obtain ⟨n, rfl⟩ := Int.eq_ofNat_of_zero_le (a := t) (by omega)
    rw [Int.toNat_natCast]
    have G := hide h1
    have E := hide h4
    have D := hide (decide_eq_true (p := 1 ≤ (xs.length : Int) ∧ (xs.length : Int) ≤ 24 - 2 * (n : Int)) (by omega))
    have hl : xs.length ≤ 24 := by omega
    obtain ⟨rest, hrest⟩ : ∃ r, r = restW xs n := ⟨_, rfl⟩
    obtain ⟨raw, hraw⟩ : ∃ r, r = rawW xs n := ⟨_, rfl⟩
    have hrl := rest_len (n := n) (by omega) E.out hl
    have hral := rawW_length xs n
    have hword : wordW xs n = spl raw 0 (rest.take rest.length) := by rw [List.take_of_length_le (Nat.le_refl _), hraw, hrest]; rfl
    rw [hword]
    rw [← hrest] at hrl
    rw [← hraw] at hral
    have HR := hide hrest
    have HW := hide hraw
    have HL := hide hral
    have HRL : Hid (rest.length ≤ raw.length) := by show rest.length ≤ raw.length; omega
    clear hw h1 h4 hword hrest hraw hral
    go_enter Tryd.func18, Tryd.ntmps18
    go_wp2_with fail
    refine (l4Wrong_calls _ _).mono ?_
    rw [G.out]
    rintro e w' ⟨rfl, rfl⟩
    go_wp2_with fail
    refine (l1In_calls _ _ _ _).mono ?_
    rw [D.out]
    rintro e w' ⟨rfl, rfl⟩
    go_wp2_with fail
    refine (l1All_calls _ xs _ R.out).mono ?_
    rw [E.out]
    rintro e w' ⟨rfl, rfl⟩
    go_wp2_with (at_make; refine wpList_make_ints rfl _ _ rfl w.heap.size _ _ (2 * n) rfl rfl (by omega) (by omega) (by omega) (Nat.le_refl _) ?_)
    intro w1 ho1 hg1
    have B1 := hide ((Below.refl w.heap.size w).grown hg1 (Nat.le_refl _) (fun k h => by cases h))
    have O1 := hide ho1
    have s1 := hg1.size
    clear ho1 hg1
    go_wp2_with (at_builtin; refine wpList_append_rd rfl _ _ rfl w.heap.size _ (List.replicate (2 * n) (0 : Int)).length (List.replicate (2 * n) 0) xs rfl O1.out _ rfl (R.out.below B1.out) (by rw [List.length_replicate]; omega) s1 ?_)
    intro v2 w2 ho2 hg2
    have B2 : Hid (Below w.heap.size w w2) := B1.out.grown hg2 s1 (fun i hi => by cases hi; exact Nat.le_refl _)
    have O2 : Hid (Own w2 w.heap.size v2 raw) := by rw [HW.out]; exact ho2
    clear ho2 hg2 O1
    obtain ⟨g, cap2, hv2, hg1, hgs, _⟩ := Own.open O2.out (by rw [HL.out]; omega)
    subst hv2
    go_wp2_with fail
    refine (l1Cut_calls _ raw _ O2.out.rd (by rw [HL.out]; omega)).mono ?_
    rintro e w3 ⟨v3, rfl, ho3, hb3⟩
    have R3 := hide ho3.rd
    have B3 := hide hb3
    clear ho3 hb3
    go_wp2_with fail
    refine (l4Generator_calls n _ (by omega)).mono ?_
    rintro e w4 ⟨v4, rfl, ho4, hb4⟩
    have R4 := hide ho4.rd
    have B4 := hide hb4
    clear ho4 hb4
    have s2 := B2.out.size
    have s3 := B3.out.size
    have s4 := B4.out.size
    go_wp2_with fail
    refine (sDivPoly_calls _ _ (cutL raw) (genI (2 * n)) _ (R3.out.below B4.out) R4.out).mono ?_
    rintro e w5 ⟨v5, v6, rfl, ho5, ho6, _, hb5⟩
    have R6 : Hid (Rd w5 v6 rest) := by rw [HR.out]; have := ho6.rd; rw [HW.out] at this; exact this
    have far6 : Hid (rest.length = 0 ∨ ∃ b cap, v6 = .slice (some ⟨b, 0, none⟩) rest.length cap ∧ g < b ∧ b < w5.heap.size ∧ ∀ i, i < rest.length → w5.cell? ⟨b, i, none⟩ = some (.int .i64 (rest.getD i 0))) := by
      by_cases h0 : rest.length = 0
      · exact .inl h0
      · right
        have e : (divR (cutL raw) (genI (2 * n))).2.1 = rest := by rw [HR.out, HW.out]; rfl
        rw [e] at ho6
        obtain ⟨b, c, h1, h2, h3, h4⟩ := Own.open ho6 (by omega)
        exact ⟨b, c, h1, by omega, h3, h4⟩
    have O5 := hide (((O2.out.below B3.out).below B4.out).below hb5)
    have B5 : Hid (Below w.heap.size w w5) := B2.out.trans ((B3.out.trans ((B4.out.mono s3).trans (hb5.mono (by omega)))).mono s2)
    have s5 := hb5.size
    clear ho5 ho6 hb5 O2
    obtain ⟨a6, c6, rfl, _, _, _⟩ := R6.out
    obtain ⟨N, hN⟩ : ∃ N, N = raw.length := ⟨_, rfl⟩
    rw [← hN]
    have HN := hide hN
    have O6 : Hid (w5.ownsRow w.heap.size 3 1 (.slice (some ⟨g, 0, none⟩) N cap2) N ((spl raw 0 (rest.take 0)).map (Value.int .i64))) := by
      have := O5.out
      unfold Own at this
      rw [← hN] at this
      have e : spl raw 0 (rest.take 0) = raw := by simp [spl]
      rw [e]
      exact this
    have hrN : rest.length ≤ N := by rw [hN]; exact HRL.out
    have hNb : N ≤ 30 := by rw [hN, HL.out]; omega
    have SL : Hid (∀ k, k ≤ rest.length → (spl raw 0 (rest.take k)).length = N) := fun k hk => by
      rw [spl_length _ _ _ (by rw [List.length_take]; have := HRL.out; omega), hN]
    clear hN O5
    go_wp2
    go_loopw [45] (fun vk wr => ∃ k : Nat, k ≤ rest.length ∧ vk = .int .i64 k ∧ wr.ownsRow w.heap.size 3 1 (.slice (some ⟨g, 0, none⟩) N cap2) N ((spl raw 0 (rest.take k)).map (Value.int .i64)) ∧ w5.grownBy wr (some g)) (fun vk _ => rest.length - (intOf vk).toNat)
    case atStart => exact ⟨0, Nat.zero_le _, rfl, O6.out, World.grownBy.refl _ _⟩
    case round =>
      obtain ⟨k, hk, rfl, ho, hg⟩ := hrel
      have O := hide ho
      have GG := hide hg
      clear ho hg
      by_cases hlt : k < rest.length
      · have hlt' : (k : Int) < (rest.length : Int) := by omega
        have hkN : (k : Int) < (N : Int) := by omega
        obtain ⟨b, rfl, hne, hb6, hc6⟩ : ∃ b, a6 = some ⟨b, 0, none⟩ ∧ g < b ∧ b < w5.heap.size ∧ ∀ i, i < rest.length → w5.cell? ⟨b, i, none⟩ = some (.int .i64 (rest.getD i 0)) := by
          rcases far6.out with h | ⟨b, c, hv, h⟩
          · omega
          · simp only [Value.slice.injEq] at hv
            exact ⟨b, hv.1, h⟩
        obtain ⟨x, hx⟩ : ∃ x, x = rest.getD k 0 := ⟨_, rfl⟩
        have hc1 : wr.cell? ⟨b, k, none⟩ = some (.int .i64 x) := by
          rw [hx, ← hc6 k hlt]
          unfold World.cell?
          rw [GG.out.block b hb6 (by simp; omega)]
        have X := hide hx
        have hcf : wr.frozen? ⟨g, k, none⟩ = false := O.out.frozenAt k
        obtain ⟨old, hc3⟩ : ∃ old, wr.cell? ⟨g, k, none⟩ = some old := by
          rw [O.out.cellAt k (by omega)]
          have := SL.out k hk
          exact ⟨_, List.getElem?_eq_getElem (by simp; omega)⟩
        have K := hide (O.out.stored k (.int .i64 x))
        clear hx hc6 hne
        go_wp2
        go_roundw
        case rel =>
          refine ⟨k + 1, by omega, by go_num, ?_, grownBy_trans GG.out K.out.2⟩
          have := K.out.1
          rw [← List.map_set, X.out, spl_step hlt HRL.out] at this
          rw [X.out]
          exact this
        case measure => simp [intOf]; omega
      · obtain rfl : k = rest.length := by omega
        have O1 : Hid (Own wr w.heap.size (.slice (some ⟨g, 0, none⟩) N cap2) (spl raw 0 (rest.take rest.length))) := by
          show World.ownsRow _ _ _ _ _ (spl raw 0 (rest.take rest.length)).length _
          rw [SL.out _ (Nat.le_refl _)]
          exact O.out
        have BB : Hid (Below w.heap.size w wr) := B5.out.grown GG.out (by omega) (fun i hi => by cases hi; exact hg1)
        clear O
        go_wp2
        go_ret2
        exact ⟨_, rfl, O1.out, BB.out⟩
end Gf
end Go.Proofs.YtogopakmebiomaaDoor

namespace Go.Proofs.YtogopakmebiomaaDoor
open Go.RowKit
namespace Gf

def nought (z : Int) : Bool := decide (z = 0)
theorem isNought_calls (z : Int) (w : World) :
    Calls Tryd.prog 81 #[.int .i64 z] w fun e w' => e = .returned (.bool (nought z)) ∧ w = w' := by
  by_cases h : z = 0
  · have t : (z == 0) = true := by simp [h]
    have e : nought z = true := by simp [nought, h]
    rw [e]
    clear h e
    go_enter Tryd.func81, Tryd.ntmps81
    go_wp2
    go_ret
    exact ⟨by rw [← t]; rfl, rfl⟩
  · have t : (z == 0) = false := by simp [h]
    have e : nought z = false := by simp [nought, h]
    rw [e]
    clear h e
    go_enter Tryd.func81, Tryd.ntmps81
    go_wp2
    go_ret
    exact ⟨by rw [← t]; rfl, rfl⟩
set_option maxRecDepth 100000 in
set_option maxHeartbeats 800000 in
theorem allNought_calls (v : Value) (m : List Int) (w : World) (h : Rd w v m) :
    Calls Tryd.prog 80 #[v, .func (.func 81) #[] #[]] w fun e w' => e = .returned (.bool (m.all nought)) ∧ w = w' := by
  have R := hide h
  obtain ⟨a, cap, rfl, h1, h2, h3⟩ := h
  have hm : m.length ≤ maxLen := by omega
  unfold maxLen at hm
  clear h3 h2 h1
  go_enter Tryd.func80, Tryd.ntmps80
  go_wp2
  go_loop [9] (fun vi => ∃ k : Nat, k ≤ m.length ∧ vi = .int .i64 k ∧ ∀ i, i < k → nought (m.getD i 0) = true) (fun vi => m.length - (intOf vi).toNat)
  case atStart => exact ⟨0, Nat.zero_le _, rfl, fun i hi => by omega⟩
  case round =>
    obtain ⟨k, hk, rfl, hall⟩ := hrel
    have A := hide hall
    clear hall
    by_cases hlt : k < m.length
    · have hlt' : (k : Int) < (m.length : Int) := by omega
      obtain ⟨b, off, u, rfl, hc1, hu⟩ := R.out.row k hlt
      obtain ⟨r, hr⟩ : ∃ r, r = m.getD k 0 := ⟨_, rfl⟩
      rw [← hr] at hu
      subst hu
      have Hr := hide hr
      clear hr
      obtain ⟨q, hq⟩ : ∃ q, q = nought r := ⟨_, rfl⟩
      have Q := hide hq
      have HC : Hid (Calls Tryd.prog 81 #[.int .i64 r] w fun e w' => e = .returned (.bool q) ∧ w = w') := by
        rw [hq]
        exact isNought_calls r w
      cases q with
      | true =>
        clear hq
        go_wp2_with (go_at_call 81; refine HC.out.mono ?_; rintro e w' ⟨rfl, rfl⟩)
        go_round
        case rel =>
          refine ⟨k + 1, by omega, by go_num, fun i hi => ?_⟩
          by_cases e : i = k
          · subst e; rw [← Hr.out, ← Q.out]
          · exact A.out i (by omega)
        case measure => simp [intOf]; omega
      | false =>
        clear hq
        go_wp2_with (go_at_call 81; refine HC.out.mono ?_; rintro e w' ⟨rfl, rfl⟩)
        go_ret
        exact ⟨Gf.ret_bool (all_no hlt (by rw [← Hr.out, ← Q.out])).symm, rfl⟩
    · obtain rfl : k = m.length := by omega
      go_wp2
      go_ret
      exact ⟨Gf.ret_bool (all_yes A.out).symm, rfl⟩

def isB (xs : List Int) (t : Int) : Bool := (synI xs (2 * t.toNat)).all nought
def isWR (xs : List Int) (t : Int) : Bool × Bool := (wdOk xs t && isB xs t, wdOk xs t)

set_option maxRecDepth 100000 in
set_option maxHeartbeats 1600000 in
theorem isWord_calls (v : Value) (xs : List Int) (t : Int) (w : World) (hT : Tab w) (h : Rd w v xs) :
    Calls Tryd.prog 24 #[v, .int .i64 t] w fun e w' => e = .returned (.tuple #[.bool (isWR xs t).1, .bool (isWR xs t).2]) ∧ Below w.heap.size w w' := by
  have T := hide hT
  have R := hide h
  clear hT h
  unfold isWR
  cases hw : wdOk xs t with
  | false =>
    have G := hide (synR_no hw)
    clear hw
    go_enter Tryd.func24, Tryd.ntmps24
    go_wp2_with fail
    refine (syndromesOf_calls _ xs t _ T.out R.out).mono ?_
    rw [G.out]
    rintro e w1 ⟨v1, rfl, ho1, hb1⟩
    have B1 := hide hb1
    clear ho1 hb1
    go_wp2
    go_ret2
    exact ⟨rfl, B1.out⟩
  | true =>
    have G := hide (synR_yes hw)
    obtain ⟨b, hb⟩ : ∃ b, b = isB xs t := ⟨_, rfl⟩
    rw [Bool.true_and]
    rw [← hb]
    have HB := hide hb
    clear hw hb
    go_enter Tryd.func24, Tryd.ntmps24
    go_wp2_with fail
    refine (syndromesOf_calls _ xs t _ T.out R.out).mono ?_
    rw [G.out]
    rintro e w1 ⟨v1, rfl, ho1, hb1⟩
    have R1 := hide ho1.rd
    have B1 := hide hb1
    clear ho1 hb1
    go_wp2_with fail
    refine (allNought_calls _ (synI xs (2 * t.toNat)) _ R1.out).mono ?_
    rw [show (synI xs (2 * t.toNat)).all nought = b from HB.out.symm]
    rintro e w' ⟨rfl, rfl⟩
    go_wp2
    go_ret2
    exact ⟨rfl, B1.out⟩

set_option maxRecDepth 100000 in
set_option maxHeartbeats 1600000 in
theorem l4Is_calls (v : Value) (xs : List Int) (n : Nat) (w : World) (h : Rd w v xs) (he : xs.all elOk = true) (hn : n ≤ 3) :
    Calls Tryd.prog 79 #[v, .int .i64 n] w fun e w' => e = .returned (.bool (isB xs n)) ∧ Below w.heap.size w w' := by
  have R := hide h
  have E := hide he
  obtain ⟨S, hS⟩ : ∃ S, S = synI xs (2 * n) := ⟨_, rfl⟩
  have e0 : isB xs n = S.all nought := by rw [hS]; rfl
  have HSl : S.length = 2 * n := by rw [hS]; exact synI_length _ _
  rw [e0]
  have HS := hide hS
  clear h he hS e0
  have HL := hide HSl
  have hSl : S.length ≤ 6 := by omega
  clear HSl
  go_enter Tryd.func79, Tryd.ntmps79
  go_wp2_with fail
  refine (l4Syndromes_calls _ xs n _ R.out E.out hn).mono ?_
  rw [← HS.out]
  rintro e w1 ⟨v1, rfl, ho1, hb1⟩
  have R1 := hide ho1.rd
  have B1 := hide hb1
  clear ho1 hb1
  obtain ⟨a1, c1, rfl, _, _, _⟩ := R1.out
  go_wp2
  go_loopw [11] (fun vi wr => ∃ k : Nat, k ≤ S.length ∧ vi = .int .i64 k ∧ w1 = wr ∧ ∀ i, i < k → nought (S.getD i 0) = true) (fun vi _ => S.length - (intOf vi).toNat)
  case atStart => exact ⟨0, Nat.zero_le _, rfl, rfl, fun i hi => by omega⟩
  case round =>
    obtain ⟨k, hk, rfl, rfl, hall⟩ := hrel
    have A := hide hall
    clear hall
    by_cases hlt : k < S.length
    · have hlt' : (k : Int) < (S.length : Int) := by omega
      obtain ⟨b, off, u, rfl, hc1, hu⟩ := R1.out.row k hlt
      obtain ⟨r, hr⟩ : ∃ r, r = S.getD k 0 := ⟨_, rfl⟩
      rw [← hr] at hu
      subst hu
      have Hr := hide hr
      clear hr
      by_cases hz : r = 0
      · have tt : (r != 0) = false := by simp [hz]
        have HZ := hide hz
        clear hz
        go_wp2
        go_roundw
        case rel =>
          refine ⟨k + 1, by omega, by go_num, by first | trivial | rfl, fun i hi => ?_⟩
          by_cases e : i = k
          · subst e; rw [← Hr.out, HZ.out]; rfl
          · exact A.out i (by omega)
        case measure => simp [intOf]; omega
      · have tt : (r != 0) = true := by simp [hz]
        have HZ := hide hz
        clear hz
        go_wp2
        go_ret
        exact ⟨Gf.ret_bool (all_no hlt (by rw [← Hr.out]; simp [nought, HZ.out])).symm, B1.out⟩
    · obtain rfl : k = S.length := by omega
      go_wp2
      go_ret
      exact ⟨Gf.ret_bool (all_yes A.out).symm, B1.out⟩

set_option maxRecDepth 100000 in
set_option maxHeartbeats 1600000 in
theorem sIsWord_calls (v : Value) (xs : List Int) (t : Int) (w : World) (h : Rd w v xs) :
    Calls Tryd.prog 23 #[v, .int .i64 t] w fun e w' => e = .returned (.tuple #[.bool (isWR xs t).1, .bool (isWR xs t).2]) ∧ Below w.heap.size w w' := by
  have R := hide h
  clear h
  unfold isWR
  cases hw : wdOk xs t with
  | false =>
    have G := hide hw
    clear hw
    go_enter Tryd.func23, Tryd.ntmps23
    go_wp2_with fail
    refine (l4Word_calls _ xs t _ R.out).mono ?_
    rw [G.out]
    rintro e w' ⟨rfl, rfl⟩
    go_wp2
    go_ret2
    exact ⟨rfl, Below.refl _ _⟩
  | true =>
    obtain ⟨h1, h2, h3, h4⟩ := wdOk_yes hw
    obtain ⟨q1, q3⟩ := wOk_iff.1 h1
    obtain ⟨n, rfl⟩ := Int.eq_ofNat_of_zero_le (a := t) (by omega)
    have G := hide hw
    have E := hide h4
    obtain ⟨b, hb⟩ : ∃ b, b = isB xs n := ⟨_, rfl⟩
    rw [Bool.true_and]
    rw [← hb]
    have HB := hide hb
    clear hw hb h1 h2 h4
    go_enter Tryd.func23, Tryd.ntmps23
    go_wp2_with fail
    refine (l4Word_calls _ xs _ _ R.out).mono ?_
    rw [G.out]
    rintro e w' ⟨rfl, rfl⟩
    go_wp2_with fail
    refine (l4Is_calls _ xs n _ R.out E.out (by omega)).mono ?_
    rw [← HB.out]
    rintro e w1 ⟨rfl, hb1⟩
    have B1 := hide hb1
    clear hb1
    go_wp2
    go_ret2
    exact ⟨rfl, B1.out⟩
end Gf
end Go.Proofs.YtogopakmebiomaaDoor

namespace Go.Proofs.YtogopakmebiomaaDoor
open Go.RowKit
open Gf (ci nat AllLt p2 vs px sp fn ev evn pow)

/-- A number of a list, as a natural one. -/
def at_ (xs : List Int) (i : Nat) : Nat := fn (nat xs) i
theorem at_eq (xs : List Int) (i : Nat) : at_ xs i = (xs.getD i 0).toNat := by
  unfold at_ Gf.fn Gf.nat
  simp only [List.getD_eq_getElem?_getD, List.getElem?_map]
  cases xs[i]? <;> rfl
theorem at_lt {xs : List Int} (h : xs.all Gf.elOk = true) (i : Nat) : at_ xs i < 256 := Gf.nat_lt h i
theorem ev_at {xs : List Int} (h : xs.all Gf.elOk = true) {x : Nat} (hx : x < 256) (L : Nat) (hL : xs.length ≤ L) : ev x xs = sp (at_ xs) x L := by
  have e := Gf.ci_nat h
  have : ev x xs = evn x (nat xs) := by
    conv => lhs; rw [← e]
    exact Gf.ev_ci x (nat xs)
  rw [this]
  exact Gf.evn_fun hx (Gf.nat_lt h) L (by rw [Gf.nat_length]; exact hL)
namespace Gf
theorem sp_lt {c : Nat → Nat} {x : Nat} (hc : ∀ i, c i < 256) (n : Nat) : sp c x n < 256 := by
  induction n with
  | zero => show 0 < 256; omega
  | succ n ih => exact xor_lt ih (mul_lt (hc n))
theorem sp_xor {a b : Nat → Nat} {x : Nat} (ha : ∀ i, a i < 256) (hb : ∀ i, b i < 256) (n : Nat) : sp (fun i => a i ^^^ b i) x n = sp a x n ^^^ sp b x n := by
  induction n with
  | zero => show 0 = 0 ^^^ 0; rfl
  | succ n ih => rw [sp, sp, sp, ih, mul_xor_a _ _ _ (ha n) (hb n), xor4]
theorem px_swap {k i : Nat} (hk : k < 64) (hi : i < 64) : px (pow 2 k) i = px (p2 i) k := by
  have e1 : pow 2 k = px 2 k := p2_px hk
  rw [e1, p2_px hi, px_px (by omega), px_px (by omega), Nat.mul_comm]
end Gf
/-- By how much two lists are unlike at a place. -/
def dif (e x : List Int) (i : Nat) : Nat := at_ e i ^^^ at_ x i
theorem dif_lt {e x : List Int} (he : e.all Gf.elOk = true) (hx : x.all Gf.elOk = true) (i : Nat) : dif e x i < 256 := Gf.xor_lt (at_lt he i) (at_lt hx i)
theorem at_inj {e x : List Int} (he : e.all Gf.elOk = true) (hx : x.all Gf.elOk = true) {i : Nat} (h1 : i < e.length) (h2 : i < x.length) : at_ e i = at_ x i ↔ e.getD i 0 = x.getD i 0 := by
  rw [at_eq, at_eq]
  have a := Gf.all_get he i h1
  have b := Gf.all_get hx i h2
  omega
/-- The sum over all places is the one over those where two lists are unlike. -/
theorem dif_vs {e x : List Int} (he : e.all Gf.elOk = true) (hx : x.all Gf.elOk = true) (hl : e.length = x.length) {k : Nat} (hk : k < 6) : ∀ L, L ≤ e.length → L ≤ 24 →
    sp (dif e x) (pow 2 k) L = vs (fun j => dif e x ((unpN e x L).getD j 0).toNat) (fun j => p2 ((unpN e x L).getD j 0).toNat) k (unpN e x L).length
  | 0, _, _ => rfl
  | L + 1, h1, h2 => by
    have ih := dif_vs he hx hl hk L (by omega) (by omega)
    rw [Gf.sp, ih, Gf.px_swap (by omega) (by omega)]
    by_cases h : e.getD L 0 = x.getD L 0
    · rw [unpN_same rfl rfl h]
      have e0 : dif e x L = 0 := by
        unfold dif
        rw [(at_inj he hx (by omega) (by omega)).2 h, Nat.xor_self]
      rw [e0, Gf.zero_mul (Gf.px_lt _ _), Nat.xor_zero]
    · rw [unpN_other rfl rfl h]
      have hla : (unpN e x L ++ [(L : Int)]).length = (unpN e x L).length + 1 := by simp
      have ha : ∀ i, i < (unpN e x L).length → (unpN e x L ++ [(L : Int)]).getD i 0 = (unpN e x L).getD i 0 := fun i hi => by
        rw [List.getD_eq_getElem?_getD, List.getElem?_append_left hi, List.getD_eq_getElem?_getD]
      have hb : (unpN e x L ++ [(L : Int)]).getD (unpN e x L).length 0 = (L : Int) := by
        rw [List.getD_eq_getElem?_getD, List.getElem?_append_right (Nat.le_refl _), Nat.sub_self]; rfl
      rw [hla, Gf.vs, hb, Int.toNat_natCast]
      congr 1
      exact Gf.vs_congr _ (fun i hi => by rw [ha i hi]; exact ⟨rfl, rfl⟩)
theorem unpN_ok (e x : List Int) : ∀ L, ∀ i, i < (unpN e x L).length → ∃ p : Nat, (unpN e x L).getD i 0 = (p : Int) ∧ p < L ∧ e.getD p 0 ≠ x.getD p 0 ∧ ∀ j, j < i → (unpN e x L).getD j 0 < (p : Int)
  | 0, i, hi => by simp [unpN] at hi
  | L + 1, i, hi => by
    by_cases h : e.getD L 0 = x.getD L 0
    · rw [unpN_same rfl rfl h] at hi ⊢
      obtain ⟨p, a, b, c, d⟩ := unpN_ok e x L i hi
      exact ⟨p, a, by omega, c, d⟩
    · rw [unpN_other rfl rfl h] at hi ⊢
      have hla : (unpN e x L ++ [(L : Int)]).length = (unpN e x L).length + 1 := by simp
      have ha : ∀ i, i < (unpN e x L).length → (unpN e x L ++ [(L : Int)]).getD i 0 = (unpN e x L).getD i 0 := fun i hi => by
        rw [List.getD_eq_getElem?_getD, List.getElem?_append_left hi, List.getD_eq_getElem?_getD]
      have hb : (unpN e x L ++ [(L : Int)]).getD (unpN e x L).length 0 = (L : Int) := by
        rw [List.getD_eq_getElem?_getD, List.getElem?_append_right (Nat.le_refl _), Nat.sub_self]; rfl
      rw [hla] at hi
      by_cases he : i = (unpN e x L).length
      · subst he
        refine ⟨L, hb, by omega, h, fun j hj => ?_⟩
        rw [ha j hj]
        obtain ⟨p, a, b, _⟩ := unpN_ok e x L j hj
        omega
      · obtain ⟨p, a, b, c, d⟩ := unpN_ok e x L i (by omega)
        refine ⟨p, by rw [ha i (by omega)]; exact a, by omega, c, fun j hj => ?_⟩
        rw [ha j (by omega)]
        exact d j hj
theorem unpN_mem (e x : List Int) : ∀ L p, p < L → e.getD p 0 ≠ x.getD p 0 → 0 < (unpN e x L).length
  | 0, p, h, _ => by omega
  | L + 1, p, h, hne => by
    by_cases hL : e.getD L 0 = x.getD L 0
    · rw [unpN_same rfl rfl hL]
      have hpL : p ≠ L := fun hp => by subst hp; exact hne hL
      exact unpN_mem e x L p (by omega) hne
    · rw [unpN_other rfl rfl hL]
      simp
/-- Where as many values are alike as there are unlike places, or more, there are none. -/
theorem far_apart {e x : List Int} (he : e.all Gf.elOk = true) (hx : x.all Gf.elOk = true) (hl : e.length = x.length) (h24 : e.length ≤ 24) {m : Nat} (hm : m ≤ 6)
    (hev : ∀ k, k < m → ev (pow 2 k) e = ev (pow 2 k) x) (hfew : (unpN e x e.length).length ≤ m) : (unpN e x e.length).length = 0 := by
  obtain ⟨P, hP⟩ : ∃ P, P = unpN e x e.length := ⟨_, rfl⟩
  have hok := unpN_ok e x e.length
  rw [← hP] at hfew hok ⊢
  by_cases h0 : P.length = 0
  · exact h0
  exfalso
  have hz := Gf.vand_zero P.length (fun j => dif e x (P.getD j 0).toNat) (fun j => p2 (P.getD j 0).toNat) (fun j => dif_lt he hx _) (fun j => Gf.p2_lt _) ?_ ?_ 0 (by omega)
  · obtain ⟨p, a, b, c, _⟩ := hok 0 (by omega)
    have hz' : dif e x (P.getD 0 0).toNat = 0 := hz
    rw [a, Int.toNat_natCast] at hz'
    exact c ((at_inj he hx b (by omega)).1 (Gf.xor_zero_eq hz'))
  · intro i j hi hj hne hh
    obtain ⟨p, a, b, _, d⟩ := hok i hi
    obtain ⟨q, a2, b2, _, d2⟩ := hok j hj
    have hh' : p2 (P.getD i 0).toNat = p2 (P.getD j 0).toNat := hh
    rw [a, a2, Int.toNat_natCast, Int.toNat_natCast] at hh'
    have := Gf.p2_inj (by omega) (by omega) hh'
    subst this
    rcases Nat.lt_or_gt_of_ne hne with h | h
    · have := d2 i h; omega
    · have := d j h; omega
  · intro k hk
    have h1 := dif_vs he hx hl (k := k) (by omega) e.length (Nat.le_refl _) h24
    rw [← hP] at h1
    have h2 : sp (dif e x) (pow 2 k) e.length = sp (at_ e) (pow 2 k) e.length ^^^ sp (at_ x) (pow 2 k) e.length := Gf.sp_xor (at_lt he) (at_lt hx) _
    rw [← ev_at he (Gf.pow_lt _ _) _ (Nat.le_refl _), ← ev_at hx (Gf.pow_lt _ _) _ (by omega), hev k (by omega), Nat.xor_self] at h2
    rw [← h1, h2]

theorem gen_root_tab : Gf.allB 4 (fun n => Gf.allB 6 (fun k => Nat.ble (2 * n) k || ev (pow 2 k) (Gf.genI (2 * n)) == 0)) = true := by decide +kernel
theorem gen_root {n k : Nat} (hn : n ≤ 3) (hk : k < 2 * n) : ev (pow 2 k) (Gf.genI (2 * n)) = 0 := by
  have := Gf.allB_of (Gf.allB_of gen_root_tab n (by omega)) k (by omega)
  simp at this
  rcases this with h | h
  · omega
  · exact h
theorem getD_spl {raw r : List Int} (i : Nat) : (spl raw 0 r).getD i 0 = if i < r.length then r.getD i 0 else raw.getD i 0 := by
  unfold spl
  rw [List.take_zero, List.nil_append, Nat.zero_add]
  simp only [List.getD_eq_getElem?_getD]
  by_cases h : i < r.length
  · rw [if_pos h, List.getElem?_append_left h]
  · rw [if_neg h, List.getElem?_append_right (by omega), List.getElem?_drop, show r.length + (i - r.length) = i from by omega]
theorem word_syn {xs : List Int} {n k : Nat} (hn : n ≤ 3) (he : xs.all Gf.elOk = true) (hl : xs.length + 2 * n ≤ 24) (hk : k < 2 * n) (hwe : (Gf.wordW xs n).all Gf.elOk = true) : ev (pow 2 k) (Gf.wordW xs n) = 0 := by
  have hp := Gf.pow_lt 2 k
  have hrl := Gf.rest_len (n := n) hn he (by omega)
  have hre : (Gf.restW xs n).all Gf.elOk = true := by
    rw [List.all_eq_true]
    intro x hx
    exact Gf.elOk_iff.2 (Gf.goodP_mem (Gf.rest_good hn he (by omega)) x hx)
  have hra := Gf.rawW_all n he
  have hral := Gf.rawW_length xs n
  have hf := (Gf.div_facts (Gf.div_ok (n := n) hn he (by omega))).2.2.2.2.2 (pow 2 k) hp
  rw [gen_root hn hk, Gf.zero_mul (Gf.ev_lt (Gf.goodP_mem (Gf.div_facts (Gf.div_ok (n := n) hn he (by omega))).2.2.1)), Nat.zero_xor, Gf.ev_cutL hp hra] at hf
  have hf' : ev (pow 2 k) (Gf.restW xs n) = ev (pow 2 k) (Gf.rawW xs n) := hf
  have key : ∀ i, at_ (Gf.wordW xs n) i = at_ (Gf.rawW xs n) i ^^^ at_ (Gf.restW xs n) i := by
    intro i
    rw [at_eq, at_eq, at_eq]
    unfold Gf.wordW
    rw [getD_spl i]
    by_cases h : i < (Gf.restW xs n).length
    · rw [if_pos h]
      have : (Gf.rawW xs n).getD i 0 = 0 := by
        unfold Gf.rawW
        rw [List.getD_eq_getElem?_getD, List.getElem?_append_left (by rw [List.length_replicate]; omega), List.getElem?_replicate, if_pos (by omega)]
        rfl
      rw [this]
      exact (Nat.zero_xor _).symm
    · rw [if_neg h]
      have : (Gf.restW xs n).getD i 0 = 0 := by
        rw [List.getD_eq_getElem?_getD, List.getElem?_eq_none (by omega)]; rfl
      rw [this]
      exact (Nat.xor_zero _).symm
  have hwl := Gf.wordW_length (n := n) hn he (by omega)
  rw [ev_at hwe hp 24 (by omega), Gf.sp_congr 24 (fun i _ => key i), Gf.sp_xor (at_lt hra) (at_lt hre), ← ev_at hra hp 24 (by omega), ← ev_at hre hp 24 (by omega), hf', Nat.xor_self]
theorem isB_of {xs : List Int} {n : Nat} (h : ∀ k, k < 2 * n → ev (pow 2 k) xs = 0) : Gf.isB xs n = true := by
  unfold Gf.isB
  rw [Int.toNat_natCast, List.all_eq_true]
  intro z hz
  unfold Gf.synI at hz
  obtain ⟨k, hk, rfl⟩ := List.mem_map.1 hz
  rw [h k (List.mem_range.1 hk)]
  rfl
theorem isB_at {xs : List Int} {n k : Nat} (h : Gf.isB xs n = true) (hk : k < 2 * n) : ev (pow 2 k) xs = 0 := by
  unfold Gf.isB at h
  rw [Int.toNat_natCast] at h
  have := all_at (d := 0) h k (by rw [Gf.synI_length]; exact hk)
  rw [Gf.synI_get _ _ _ hk] at this
  simp [Gf.nought] at this
  exact this
end Go.Proofs.YtogopakmebiomaaDoor

namespace Go.Proofs.YtogopakmebiomaaDoor
open Go.RowKit

/-- All are elements, and no two are alike. -/
def unl (l : List Int) : Bool := decide (l.Pairwise (· ≠ ·)) && l.all Gf.elOk
theorem unl_nil : unl [] = true := by simp [unl]
theorem unl_snoc (p : List Int) (a : Int) : unl (p ++ [a]) = (unl p && (Gf.elOk a && !p.contains a)) := by
  unfold unl
  rw [List.all_append]
  have e : decide ((p ++ [a]).Pairwise (· ≠ ·)) = (decide (p.Pairwise (· ≠ ·)) && !p.contains a) := by
    rw [Bool.eq_iff_iff]
    simp only [decide_eq_true_eq, Bool.and_eq_true, List.pairwise_append, Bool.not_eq_true', List.contains_eq_mem, decide_eq_false_iff_not]
    constructor
    · rintro ⟨h1, _, h3⟩
      exact ⟨h1, fun hm => h3 a hm a (by simp) rfl⟩
    · rintro ⟨h1, h2⟩
      refine ⟨h1, by simp, fun x hx y hy => ?_⟩
      simp at hy
      subst hy
      intro e
      subst e
      exact h2 hx
  rw [e]
  simp only [List.all_cons, List.all_nil, Bool.and_true]
  cases decide (p.Pairwise (· ≠ ·)) <;> cases p.contains a <;> cases p.all Gf.elOk <;> cases Gf.elOk a <;> rfl
theorem unl_app {p : List Int} (h : unl p = false) (r : List Int) : unl (p ++ r) = false := by
  cases e : unl (p ++ r) with
  | false => rfl
  | true =>
    unfold unl at e h
    simp only [Bool.and_eq_true, decide_eq_true_eq, List.pairwise_append, List.all_append] at e
    rw [decide_eq_true e.1.1, e.2.1] at h
    cases h
theorem unl_els {p : List Int} (h : unl p = true) : p.all Gf.elOk = true := by
  unfold unl at h
  simp only [Bool.and_eq_true] at h
  exact h.2
theorem take_snoc {α : Type} (l : List α) (d : α) (k : Nat) (h : k < l.length) : l.take (k + 1) = l.take k ++ [l.getD k d] := by
  rw [List.take_succ_eq_append_getElem h, List.getD_eq_getElem?_getD, List.getElem?_eq_getElem h, Option.getD_some]
theorem elOk_facts {a : Int} (h : Gf.elOk a = true) : 0 ≤ a ∧ a < 256 := by
  simp only [Gf.elOk, decide_eq_true_eq] at h
  omega
/-- Which of the 256 have been seen. -/
def seenL (p : List Int) : List Value := (List.range 256).map fun a : Nat => Value.bool (p.contains (a : Int))
theorem seenL_length (p : List Int) : (seenL p).length = 256 := by simp [seenL]
theorem seenL_nil : seenL [] = List.replicate 256 (Value.bool false) := by
  rw [List.eq_replicate_iff]
  simp [seenL]
theorem seenL_get (p : List Int) (a : Nat) (h : a < 256) : (seenL p)[a]? = some (.bool (p.contains (a : Int))) := by
  simp [seenL, h]
theorem seenL_set (p : List Int) (a : Nat) (h : a < 256) : (seenL p).set a (.bool true) = seenL (p ++ [(a : Int)]) := by
  unfold seenL
  apply List.ext_getElem?
  intro i
  rw [List.getElem?_set]
  by_cases hi : i < 256
  · by_cases e : a = i
    · subst e; simp [hi]
    · rw [if_neg e]
      simp only [List.getElem?_map, List.getElem?_range hi, Option.map_some, Option.some.injEq, Value.bool.injEq, List.contains_eq_mem, List.mem_append, List.mem_singleton]
      have : ¬ ((i : Int) = (a : Int)) := by omega
      simp [this]
  · have : ¬ (a = i) := by omega
    rw [if_neg this]
    simp [hi]
/-- Cauchy's rows. -/
def cauRow (a : Int) (ys : List Int) : List Int := ys.map fun b => ((Gf.inv (a.toNat ^^^ b.toNat) : Nat) : Int)
def cauM (xs ys : List Int) : List (List Int) := xs.map fun a => cauRow a ys
end Go.Proofs.YtogopakmebiomaaDoor

namespace Go.Proofs.YtogopakmebiomaaDoor
open Go.RowKit

/-- The value v is a list whose cells hold these values, each of one cell. -/
def Vals (w : World) (v : Value) (us : List Value) : Prop :=
  ∃ a cap, v = .slice a us.length cap ∧ us.length ≤ cap ∧ (cap ≤ maxLen ∧ (a = none → cap = 0)) ∧ (∀ u ∈ us, u.oneCell' = true) ∧
    (us = [] ∨ ∃ b off, a = some ⟨b, off, none⟩ ∧ b < w.heap.size ∧ ∀ i, i < us.length → w.cell? ⟨b, off + i, none⟩ = some (us.getD i nilRow))
theorem Vals.below {w w' : World} {v : Value} {us : List Value} (h : Vals w v us) (hb : Below w.heap.size w w') : Vals w' v us := by
  obtain ⟨a, cap, rfl, h1, h2, h0, h3⟩ := h
  refine ⟨a, cap, rfl, h1, h2, h0, ?_⟩
  rcases h3 with h3 | ⟨b, off, rfl, hlt, hc⟩
  · exact .inl h3
  · exact .inr ⟨b, off, rfl, Nat.lt_of_lt_of_le hlt hb.size, fun i hi => (hb.cell (p := ⟨b, off + i, none⟩) hlt).trans (hc i hi)⟩
theorem oneCell_slice {a : Option Addr} {n c : Nat} : (Value.slice a n c).oneCell' = true := rfl
theorem RdM.vals {w : World} {v : Value} {m : List (List Int)} (h : RdM w v m) : ∃ us, Vals w v us ∧ us.length = m.length ∧ ∀ i, i < m.length → Rd w (us.getD i nilRow) (m.getD i []) := by
  obtain ⟨a, cap, rfl, h1, h2, h3⟩ := h
  rcases h3 with h3 | ⟨b, off, rfl, hlt, hc⟩
  · subst h3
    exact ⟨[], ⟨a, cap, rfl, h1, h2, fun u hu => by simp at hu, .inl rfl⟩, rfl, fun i hi => by simp at hi⟩
  · obtain ⟨us, hus⟩ : ∃ us, us = (List.range m.length).map fun i => (w.cell? ⟨b, off + i, none⟩).getD nilRow := ⟨_, rfl⟩
    have hl : us.length = m.length := by rw [hus]; simp
    have hg : ∀ i, i < m.length → w.cell? ⟨b, off + i, none⟩ = some (us.getD i nilRow) ∧ Rd w (us.getD i nilRow) (m.getD i []) := by
      intro i hi
      obtain ⟨u, hu, hr⟩ := hc i hi
      have e : us.getD i nilRow = u := by rw [hus]; simp [List.getD_eq_getElem?_getD, hi, hu]
      rw [e]
      exact ⟨hu, hr⟩
    refine ⟨us, ⟨_, cap, by rw [hl], by rw [hl]; exact h1, h2, fun u hu => ?_, .inr ⟨b, off, rfl, hlt, fun i hi => (hg i (by omega)).1⟩⟩, hl, fun i hi => (hg i hi).2⟩
    obtain ⟨i, hi, rfl⟩ := List.mem_iff_getElem.1 hu
    obtain ⟨x, c, hx, _⟩ := (hg i (by omega)).2
    rw [List.getD_eq_getElem?_getD, List.getElem?_eq_getElem hi, Option.getD_some] at hx
    rw [hx]
    rfl
theorem MatV.vals {w : World} {lo hi : Nat} {v : Value} {vs : List Value} {m : List (List Int)} (h : MatV w lo hi v vs m) : Vals w v vs := by
  have h1 : ∀ u ∈ vs, u.oneCell' = true := by
    intro u hu
    obtain ⟨i, hi, rfl⟩ := List.mem_iff_getElem.1 hu
    obtain ⟨a, n, c, hs⟩ := (h.row i (by rw [← h.len]; exact hi)).shape
    rw [List.getD_eq_getElem?_getD, List.getElem?_eq_getElem hi, Option.getD_some] at hs
    rw [hs]
    rfl
  rcases h.head.2 with ⟨rfl, hn⟩ | ⟨g, cap, cur, rfl, hb, hg, hc, hm, hs, ht⟩
  · have : vs = [] := List.eq_nil_of_length_eq_zero (by rw [h.len]; exact hn)
    subst this
    exact ⟨none, 0, rfl, Nat.le_refl _, ⟨Nat.zero_le _, fun _ => rfl⟩, fun u hu => by simp at hu, .inl rfl⟩
  · refine ⟨_, cap, by rw [h.len], by rw [h.len]; exact hc, ⟨hm, fun h => by cases h⟩, h1, .inr ⟨g, 0, rfl, (Array.getElem?_eq_some_iff.1 hg).1, fun i hi => ?_⟩⟩
    rw [Nat.zero_add]
    exact h.cell i (by rw [← h.len]; exact hi)
theorem full_V {w : World} {base g n : Nat} {e : TypeId} {xs : List Value} (h : w.ownsRow base e 1 (.slice (some ⟨g, 0, none⟩) n n) n xs) : w.heap[g]? = some (.cells xs.toArray e (0, 0)) := by
  rcases h.2 with ⟨h', _⟩ | ⟨g', cap', cur, h', _, hg, _, _, hs, ht⟩
  · simp at h'
  · simp only [Value.slice.injEq, Option.some.injEq, Addr.mk.injEq, and_true, true_and] at h'
    obtain ⟨rfl, rfl⟩ := h'
    rw [hg, ← ht, List.take_of_length_le (by rw [Array.length_toList, hs]; omega)]
theorem of_block_V {w : World} {base g : Nat} {e : TypeId} {zs : List Value} (h : w.heap[g]? = some (.cells zs.toArray e (0, 0))) (hb : base ≤ g) (hm : zs.length ≤ maxLen) :
    w.ownsRow base e 1 (.slice (some ⟨g, 0, none⟩) zs.length zs.length) zs.length zs :=
  ⟨by simp, .inr ⟨g, zs.length, _, rfl, hb, h, Nat.le_refl _, hm, by simp, List.take_of_length_le (by simp)⟩⟩
def splV (ws : List Value) (off : Nat) (zs : List Value) : List Value := ws.take off ++ (zs ++ ws.drop (off + zs.length))
/-- 'copy(out[off:], p)', out a list of rows that the call has made, p not longer than what is there. -/
theorem wpList_copy_vals {w : World} {ops : Array Oper} {rest : List Oper} {o : Oper} {a : Act} {Q : Exit → Act → World → Prop} (hgd : o.guard = none) (d s : Operand)
    (ho : o.op = .call { callee := .builtin .copy, args := #[d, s], argTypes := #[46, 46] })
    (base g N off dLen dCap : Nat) (u : Value) (ws cs : List Value) (hd : a.eval d = .slice (some ⟨g, off, none⟩) dLen dCap) (hs : a.eval s = u)
    (hown : w.ownsRow base 22 1 (.slice (some ⟨g, 0, none⟩) N N) N ws) (hr : Vals w u cs) (hdl : cs.length ≤ dLen) (hfit : off + cs.length ≤ N)
    (h : ∀ w', w'.ownsRow base 22 1 (.slice (some ⟨g, 0, none⟩) N N) N (splV ws off cs) → w.grownBy w' (some g) → wpList Tryd.prog ops Q rest (a.put o.dst (goInt cs.length)) w') : wpList Tryd.prog ops Q (o :: rest) a w := by
  obtain ⟨sp, cap, rfl, h1, h2, h0, h3⟩ := hr
  have hwl : ws.length = N := by have := hown.1; simpa using this
  have hg := full_V hown
  have hbg : base ≤ g := (World.ownsRow.lt hown g rfl).1
  have hmx : N ≤ maxLen := by
    rcases hown.2 with ⟨h', _⟩ | ⟨g', cap', cur, h', _, _, _, hm, _⟩
    · simp at h'
    · simp at h'; omega
  rcases h3 with h3 | ⟨b, so, rfl, hlt, hc⟩
  · subst h3
    refine wpList_copy_nothing (w := w) hgd d s 46 46 ho 22 Tryd.underlying46 infoRowSize (some ⟨g, off, none⟩) sp dLen dCap 0 cap hd hs (by simp) ?_
    refine h w ?_ (World.grownBy.refl _ _)
    simp only [splV, List.nil_append, List.length_nil, Nat.add_zero, List.take_append_drop]
    exact hown
  · refine wpList_copy_own (w := w) hgd d s 46 46 ho 22 Tryd.underlying46 infoRowSize g off dLen dCap ⟨b, so, none⟩ cs.length cap hd hs ws.toArray 22 hg cs (Nat.min_eq_left hdl).symm ?_ (by simp; omega) h0 ?_
    · intro j y hj
      have hjl : j < cs.length := (List.getElem?_eq_some_iff.1 hj).1
      have hadd : (⟨b, so, none⟩ : Addr).add j = ⟨b, so + j, none⟩ := by unfold Addr.add; split <;> simp_all
      rw [hadd, hc j hjl, List.getD_eq_getElem?_getD, hj]
      rfl
    · have hl : (splV ws off cs).length = N := by simp [splV]; omega
      have := of_block_V (base := base) (setRow_heap w g _ (splV ws off cs).toArray 22 _ hg) hbg (by rw [hl]; exact hmx)
      rw [hl] at this
      exact h _ this ⟨rfl, rfl, rfl, by simp [World.setRow], fun k _ hk => setRow_other w g k _ (fun e => hk (by simp [e]))⟩
theorem getD_app {α : Type} (a b : List α) (d : α) (i : Nat) : (a ++ b).getD i d = if i < a.length then a.getD i d else b.getD (i - a.length) d := by
  simp only [List.getD_eq_getElem?_getD]
  by_cases h : i < a.length
  · rw [if_pos h, List.getElem?_append_left h]
  · rw [if_neg h, List.getElem?_append_right (by omega)]
/-- Rows behind rows: the outer list is new (or the first one's, grown), the rows are theirs. -/
theorem MatV.cat {w w2 : World} {B lo hi lo' hi' : Nat} {v1 v2 v' : Value} {vs1 vs2 : List Value} {m1 m2 : List (List Int)} (h1 : MatV w lo hi v1 vs1 m1) (h2 : MatV w lo' hi' v2 vs2 m2) (hl1 : B ≤ lo) (hl2 : B ≤ lo') (hd : hi ≤ lo' ∨ hi' ≤ lo) (hh : hi' ≤ w.heap.size) (hh1 : hi ≤ w.heap.size)
    (blk : Option Nat) (hg : w.grownBy w2 blk) (hb1 : ∀ i, i < m1.length → (vs1.getD i nilRow).ownBlock = none ∨ (vs1.getD i nilRow).ownBlock ≠ blk) (hb2 : ∀ i, i < m2.length → (vs2.getD i nilRow).ownBlock = none ∨ (vs2.getD i nilRow).ownBlock ≠ blk)
    (ho : w2.ownsRow B 22 1 v' (m1.length + m2.length) (vs1 ++ vs2)) : MatV w2 B w2.heap.size v' (vs1 ++ vs2) (m1 ++ m2) := by
  have hs := hg.size
  have e1 := h1.len
  have e2 := h2.len
  refine ⟨by simp [e1, e2], by rw [List.length_append]; exact ho, ?_, fun k hk => (World.ownsRow.lt ho k hk).2, ?_, ?_⟩
  · intro i hi
    rw [List.length_append] at hi
    rw [getD_app, getD_app, e1]
    split
    · rename_i h; exact World.ownsRow.kept (Own.mono (h1.row i h) hl1) hg (hb1 i h)
    · exact World.ownsRow.kept (Own.mono (h2.row (i - m1.length) (by omega)) hl2) hg (hb2 (i - m1.length) (by omega))
  · intro i k hi hk
    rw [List.length_append] at hi
    rw [getD_app, e1] at hk
    split at hk
    · rename_i h; have := h1.tops i k h hk; omega
    · have := h2.tops (i - m1.length) k (by omega) hk; omega
  · intro i j hi hj hij
    rw [List.length_append] at hi hj
    rw [getD_app, getD_app, e1]
    have cross : ∀ i j, i < m1.length → j < m2.length → ∀ x, (vs1.getD i nilRow).ownBlock = some x → (vs2.getD j nilRow).ownBlock = some x → False := by
      intro i j hi hj x h3 h4
      have q1 := h1.tops i x hi h3
      have q2 := (World.ownsRow.lt (h2.row j hj) x h4).1
      have q3 := h2.tops j x hj h4
      have q4 := (World.ownsRow.lt (h1.row i hi) x h3).1
      omega
    by_cases a : i < m1.length
    · by_cases b : j < m1.length
      · rw [if_pos a, if_pos b]; exact h1.apart i j a b hij
      · rw [if_pos a, if_neg b]
        cases hu : (vs1.getD i nilRow).ownBlock with
        | none => exact .inl rfl
        | some x => exact .inr (fun e => cross i (j - m1.length) a (by omega) x hu e.symm)
    · by_cases b : j < m1.length
      · rw [if_neg a, if_pos b]
        cases hu : (vs2.getD (i - m1.length) nilRow).ownBlock with
        | none => exact .inl rfl
        | some x => exact .inr (fun e => cross j (i - m1.length) b (by omega) x e.symm hu)
      · rw [if_neg a, if_neg b]; exact h2.apart _ _ (by omega) (by omega) (by omega)
/-- 'append(a, b...)', rows of the call's own behind rows of its own. -/
theorem wpList_append_mat {w : World} {ops : Array Oper} {rest : List Oper} {o : Oper} {a : Act} {Q : Exit → Act → World → Prop} (hgd : o.guard = none) (s x : Operand)
    (ho : o.op = .call { callee := .builtin .append, args := #[s, x], argTypes := #[46, 46] })
    (B lo hi lo' hi' : Nat) (v1 v2 : Value) (vs1 vs2 : List Value) (m1 m2 : List (List Int)) (hs : a.eval s = v1) (hx : a.eval x = v2) (h1 : MatV w lo hi v1 vs1 m1) (h2 : MatV w lo' hi' v2 vs2 m2)
    (hl1 : B ≤ lo) (hl2 : B ≤ lo') (hd : hi ≤ lo' ∨ hi' ≤ lo) (hh : hi' ≤ w.heap.size) (hh1 : hi ≤ w.heap.size) (h0 : 0 < m2.length) (hn1 : m1.length ≤ 1048576) (hn2 : m2.length ≤ 1048576) (hB : B ≤ w.heap.size)
    (K : ∀ v' w', MatV w' B w'.heap.size v' (vs1 ++ vs2) (m1 ++ m2) → w.grownBy w' v1.ownBlock → wpList Tryd.prog ops Q rest (a.put o.dst v') w') : wpList Tryd.prog ops Q (o :: rest) a w := by
  obtain ⟨i0, hi0, hz0, hz1, hz2⟩ := info_parts infoRow
  obtain ⟨sp, cap, rfl, q1, q2, q0, q3⟩ := h2.vals
  have e2 := h2.len
  rcases q3 with q3 | ⟨b, off, rfl, hlt, hc⟩
  · rw [q3] at e2; simp at e2; omega
  have hown : w.ownsRow B 22 1 v1 m1.length vs1 := by
    refine ⟨h1.head.1, ?_⟩
    rcases h1.head.2 with hn | ⟨g, cap, cur, rfl, hb', rest⟩
    · exact .inl hn
    · exact .inr ⟨g, cap, cur, rfl, Nat.le_trans hl1 hb', rest⟩
  refine wpList_append_own (w := w) hgd s x _ ho B _ i0 (.slice none 0 0) 1 24 Tryd.underlying46 hi0 hz0 hz1 hz2 rfl (by decide) v1 m1.length vs1 hs hown ⟨b, off, none⟩ vs2.length cap vs2 hx (by simp) ?_ q0 (by unfold maxLen; omega) (by omega) hB ?_
  · intro j y hj
    have hjl : j < vs2.length := (List.getElem?_eq_some_iff.1 hj).1
    have hadd : (⟨b, off, none⟩ : Addr).add j = ⟨b, off + j, none⟩ := by unfold Addr.add; split <;> simp_all
    rw [hadd, hc j hjl, List.getD_eq_getElem?_getD, hj]
    rfl
  · intro v' w' ho' hg' _
    refine K v' w' (h1.cat h2 hl1 hl2 hd hh hh1 _ hg' (fun i hi => heads_apart' h1.head (h1.row i hi)) (fun i hi => heads_apart' h1.head (h2.row i hi)) ?_) hg'
    rw [e2] at ho'
    exact ho'
theorem splV_two (N : Nat) (fs bs : List Value) (h : N = fs.length + bs.length) : splV (splV (List.replicate N nilRow) 0 fs) fs.length bs = fs ++ bs := by
  subst h
  simp [splV]

set_option maxRecDepth 100000 in
set_option maxHeartbeats 800000 in
theorem joinLists_calls (fv bv : Value) (fs bs : List Value) (w : World) (hf : Vals w fv fs) (hb : Vals w bv bs) (hn1 : fs.length ≤ 4096) (hn2 : bs.length ≤ 4096) (h0 : 0 < bs.length) :
    Calls Tryd.prog 118 #[fv, bv] w fun e w' => e = .returned (.slice (some ⟨w.heap.size, 0, none⟩) (fs.length + bs.length) (fs.length + bs.length)) ∧
      w'.ownsRow w.heap.size 22 1 (.slice (some ⟨w.heap.size, 0, none⟩) (fs.length + bs.length) (fs.length + bs.length)) (fs.length + bs.length) (fs ++ bs) ∧ w.grownBy w' none := by
  have F := hide hf
  have G := hide hb
  obtain ⟨fa, fcap, rfl, _⟩ := hf
  obtain ⟨ba, bcap, rfl, _⟩ := hb
  obtain ⟨N, hN⟩ : ∃ N, N = fs.length + bs.length := ⟨_, rfl⟩
  rw [← hN]
  have HN := hide hN
  have hN1 : fs.length < N := by omega
  have hN2 : N ≤ 8192 := by omega
  have HN3 : Hid (((fs.length : Int) + (bs.length : Int)) = (N : Int)) := by show ((fs.length : Int) + (bs.length : Int)) = (N : Int); omega
  have hN4 : Hid (fs.length + bs.length ≤ N) := by show fs.length + bs.length ≤ N; omega
  clear hN
  go_enter Tryd.func118, Tryd.ntmps118
  go_wp2_with (at_make; refine wpList_make_rows rfl _ _ rfl _ _ N rfl rfl HN3.out HN3.out (by omega) ?_)
  intro w0 hm0 hg0
  have ho0 : w0.ownsRow w.heap.size 22 1 (.slice (some ⟨w.heap.size, 0, none⟩) N N) N (List.replicate N nilRow) := by
    have := hm0.head
    rwa [List.length_replicate] at this
  have hb0 : Below w.heap.size w w0 := (Below.refl _ _).grown hg0 (Nat.le_refl _) (fun k h => by cases h)
  have O0 := hide ho0
  have B0 := hide hb0
  clear hm0 hg0 ho0 hb0
  go_wp2_with (refine wpList_copy_vals rfl (.tmp 12) (.tmp 13) rfl w.heap.size w.heap.size N 0 N N _ (List.replicate N nilRow) fs rfl rfl O0.out (F.out.below B0.out) (by omega) (by omega) ?_)
  intro w1 ho1 hg1
  have hb1 : Below w.heap.size w w1 := B0.out.grown hg1 B0.out.size (fun k hk => by cases hk; exact Nat.le_refl _)
  have O1 := hide ho1
  have B1 := hide hb1
  have i0 : (0 : Int) ≤ (fs.length : Int) := by omega
  have i1 : (fs.length : Int) ≤ (N : Int) := by omega
  have i3 : ¬ (N = fs.length) := by omega
  clear ho1 hg1 hb1
  go_wp2_with (refine wpList_copy_vals rfl (.tmp 18) (.tmp 19) rfl w.heap.size w.heap.size N fs.length (N - fs.length) (N - fs.length) _ (splV (List.replicate N nilRow) 0 fs) bs rfl rfl O1.out (G.out.below B1.out) (by have := hN4.out; omega) hN4.out ?_)
  intro w2 ho2 hg2
  have hb2 : Below w.heap.size w w2 := B1.out.grown hg2 B1.out.size (fun k hk => by cases hk; exact Nat.le_refl _)
  rw [splV_two N fs bs HN.out] at ho2
  have O2 := hide ho2
  have B2 := hide hb2
  clear ho2 hg2 hb2
  go_wp2
  go_ret
  exact ⟨rfl, O2.out, B2.out.os, B2.out.tape, B2.out.output, B2.out.size, fun k hk _ => B2.out.block k hk⟩
end Go.Proofs.YtogopakmebiomaaDoor

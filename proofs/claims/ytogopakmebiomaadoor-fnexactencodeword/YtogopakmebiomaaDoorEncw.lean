/-
  The word of a message: the program's EncodeWord and its model's, call by call. The program's table of rests must hold its seven numbers where the program's own functions are called.
-/
import Derived.Test.YtogopakmebiomaaDoorSyn
import Derived.Test.YtogopakmebiomaaDoorDivP
import Derived.Test.YtogopakmebiomaaDoorCopyAt
namespace Go.Proofs.YtogopakmebiomaaDoor
open Go.RowKit

theorem spl_two (N : Nat) (fs bs : List Int) (h : N = fs.length + bs.length) : spl (spl (List.replicate N 0) 0 fs) fs.length bs = fs ++ bs := by
  subst h
  simp [spl]
set_option maxRecDepth 100000 in
set_option maxHeartbeats 800000 in
theorem joinInts_calls (fv bv : Value) (fs bs : List Int) (w : World) (hf : Rd w fv fs) (hb : Rd w bv bs) (hn1 : fs.length ≤ 4096) (hn2 : bs.length ≤ 4096) (h1 : 0 < fs.length) (h0 : 0 < bs.length) :
    Calls Tryd.prog 73 #[fv, bv] w fun e w' => ∃ N, N = fs.length + bs.length ∧ e = .returned (.slice (some ⟨w.heap.size, 0, none⟩) N N) ∧ Own w' w.heap.size (.slice (some ⟨w.heap.size, 0, none⟩) N N) (fs ++ bs) ∧ Below w.heap.size w w' := by
  have F := hide hf
  have G := hide hb
  obtain ⟨fa, fcap, rfl, _⟩ := hf
  obtain ⟨ba, bcap, rfl, _⟩ := hb
  obtain ⟨N, hN⟩ : ∃ N, N = fs.length + bs.length := ⟨_, rfl⟩
  have HN := hide hN
  have hN1 : fs.length < N := by omega
  have hN2 : N ≤ 8192 := by omega
  have HN3 : Hid (((fs.length : Int) + (bs.length : Int)) = (N : Int)) := by show ((fs.length : Int) + (bs.length : Int)) = (N : Int); omega
  have hN4 : Hid (fs.length + bs.length ≤ N) := by show fs.length + bs.length ≤ N; omega
  clear hN
  go_enter Tryd.func73, Tryd.ntmps73
  go_wp2_with (at_make; refine wpList_make_ints rfl _ _ rfl w.heap.size _ _ N rfl rfl HN3.out HN3.out (by omega) (Nat.le_refl _) ?_)
  intro w0 ho0 hg0
  have hb0 : Below w.heap.size w w0 := (Below.refl _ _).grown hg0 (Nat.le_refl _) (fun k h => by cases h)
  have O0 := hide ho0
  have B0 := hide hb0
  clear hg0 ho0 hb0
  go_wp2_with (refine wpList_copy_at rfl (.tmp 12) (.tmp 13) rfl w.heap.size w.heap.size N 0 N N _ _ _ (List.replicate N 0) fs rfl rfl O0.out (F.out.below B0.out) h1 (by omega) (by rw [List.length_replicate]; omega) ?_)
  intro w1 ho1 hg1
  have hb1 : Below w.heap.size w w1 := B0.out.grown hg1 B0.out.size (fun k hk => by cases hk; exact Nat.le_refl _)
  have O1 := hide ho1
  have B1 := hide hb1
  have i0 : (0 : Int) ≤ (fs.length : Int) := by omega
  have i1 : (fs.length : Int) ≤ (N : Int) := by omega
  have i3 : ¬ (N = fs.length) := by omega
  clear ho1 hg1 hb1
  go_wp2_with (refine wpList_copy_at rfl (.tmp 18) (.tmp 19) rfl w.heap.size w.heap.size N fs.length (N - fs.length) (N - fs.length) _ _ _ (spl (List.replicate N 0) 0 fs) bs rfl rfl O1.out (G.out.below B1.out) h0 (by have := hN4.out; omega) (by rw [spl_length _ _ _ (by rw [List.length_replicate]; omega), List.length_replicate]; exact hN4.out) ?_)
  intro w2 ho2 hg2
  have hb2 : Below w.heap.size w w2 := B1.out.grown hg2 B1.out.size (fun k hk => by cases hk; exact Nat.le_refl _)
  rw [spl_two N fs bs HN.out] at ho2
  have O2 := hide ho2
  have B2 := hide hb2
  clear ho2 hg2 hb2
  go_wp2
  go_ret
  exact ⟨N, HN.out, rfl, O2.out, B2.out⟩
namespace Gf

def meOk (xs : List Int) (t : Int) : Bool := wOk t && decide (1 ≤ xs.length) && decide ((xs.length : Int) ≤ 24 - 2 * t) && xs.all elOk
theorem meOk_yes {xs : List Int} {t : Int} (h : meOk xs t = true) : wOk t = true ∧ 1 ≤ xs.length ∧ (xs.length : Int) ≤ 24 - 2 * t ∧ xs.all elOk = true := by
  simp only [meOk, Bool.and_eq_true, decide_eq_true_eq] at h
  exact ⟨h.1.1.1, h.1.1.2, h.1.2, h.2⟩
theorem meOk_mk {xs : List Int} {t : Int} (h1 : wOk t = true) (h2 : 1 ≤ xs.length) (h3 : (xs.length : Int) ≤ 24 - 2 * t) (h4 : xs.all elOk = true) : meOk xs t = true := by
  simp only [meOk, Bool.and_eq_true, decide_eq_true_eq]
  exact ⟨⟨⟨h1, h2⟩, h3⟩, h4⟩
theorem meOk_no {xs : List Int} {t : Int} (h : ¬ (wOk t = true ∧ 1 ≤ xs.length ∧ (xs.length : Int) ≤ 24 - 2 * t ∧ xs.all elOk = true)) : meOk xs t = false := by
  cases hh : meOk xs t with
  | false => rfl
  | true => exact absurd (meOk_yes hh) h
/-- Noughts for the checks, then the message. -/
def rawW (xs : List Int) (n : Nat) : List Int := List.replicate (2 * n) 0 ++ xs
theorem rawW_length (xs : List Int) (n : Nat) : (rawW xs n).length = 2 * n + xs.length := by simp [rawW]
theorem rawW_all {xs : List Int} (n : Nat) (h : xs.all elOk = true) : (rawW xs n).all elOk = true := by
  rw [rawW, List.all_append, h, Bool.and_true, List.all_eq_true]
  intro x hx
  rw [(List.mem_replicate.1 hx).2]
  rfl
/-- What is left when the generator divides. -/
def restW (xs : List Int) (n : Nat) : List Int := (divR (cutL (rawW xs n)) (genI (2 * n))).2.1
def wordW (xs : List Int) (n : Nat) : List Int := spl (rawW xs n) 0 (restW xs n)
theorem div_ok {xs : List Int} {n : Nat} (hn : n ≤ 3) (he : xs.all elOk = true) (hl : xs.length ≤ 24) : (divR (cutL (rawW xs n)) (genI (2 * n))).2.2 = true := by
  have g := gen_facts (k := 2 * n) (by omega)
  have c := cut_good (rawW_all n he) (by rw [rawW_length]; omega)
  by_cases hs : (cutL (rawW xs n)).length < (genI (2 * n)).length
  · rw [divR_short c g.1 (by rw [g.2]; omega) hs]
  · rw [divR_yes c g.1 (by rw [g.2]; omega) hs]
theorem rest_len {xs : List Int} {n : Nat} (hn : n ≤ 3) (he : xs.all elOk = true) (hl : xs.length ≤ 24) : (restW xs n).length ≤ 2 * n := by
  have := (div_facts (div_ok hn he hl)).2.2.2.2.1
  rw [(gen_facts (k := 2 * n) (by omega)).2] at this
  show (restW xs n).length ≤ _
  unfold restW
  omega
theorem rest_good {xs : List Int} {n : Nat} (hn : n ≤ 3) (he : xs.all elOk = true) (hl : xs.length ≤ 24) : goodP (restW xs n) = true := (div_facts (div_ok hn he hl)).2.2.2.1
theorem wordW_length {xs : List Int} {n : Nat} (hn : n ≤ 3) (he : xs.all elOk = true) (hl : xs.length ≤ 24) : (wordW xs n).length = 2 * n + xs.length := by
  have := rest_len hn he hl
  unfold wordW
  rw [spl_length _ _ _ (by rw [rawW_length]; omega), rawW_length]
def encW (xs : List Int) (t : Int) : List Int × Bool := if meOk xs t = true then (wordW xs t.toNat, true) else ([], false)
theorem encW_yes {xs : List Int} {t : Int} (h : meOk xs t = true) : encW xs t = (wordW xs t.toNat, true) := if_pos h
theorem encW_no {xs : List Int} {t : Int} (h : meOk xs t = false) : encW xs t = ([], false) := if_neg (by rw [h]; decide)
theorem encW_len (xs : List Int) (t : Int) : (encW xs t).1.length ≤ 1048576 := by
  unfold encW
  split
  next h =>
    obtain ⟨h1, h2, h3, h4⟩ := meOk_yes h
    have := wOk_iff.1 h1
    show (wordW xs t.toNat).length ≤ _
    rw [wordW_length (by omega) h4 (by omega)]
    omega
  next => show 0 ≤ _; omega
set_option maxRecDepth 100000 in
set_option maxHeartbeats 3200000 in
theorem encodeWord_no (v : Value) (xs : List Int) (t : Int) (w : World) (hT : Tab w) (h : Rd w v xs) (hw : meOk xs t = false) :
    Calls Tryd.prog 20 #[v, .int .i64 t] w fun e w' => e = .returned (.tuple #[.slice none 0 0, .bool false]) ∧ Below w.heap.size w w' := by
  have R := hide h
  have T := hide hT
  clear hT
  obtain ⟨a, cap, rfl, _, _, _⟩ := h
  cases h1 : wOk t with
  | false =>
    have G := hide (genR_no h1)
    clear h1 hw
    go_enter Tryd.func20, Tryd.ntmps20
    go_wp2_with fail
    refine (generatorOf_calls t _ T.out).mono ?_
    rw [G.out]
    rintro e w1 ⟨v1, rfl, ho1, hb1⟩
    have B1 := hide hb1
    clear ho1 hb1
    go_wp2
    go_ret2
    exact ⟨rfl, B1.out⟩
  | true =>
    obtain ⟨q1, q3⟩ := wOk_iff.1 h1
    obtain ⟨n, rfl⟩ := Int.eq_ofNat_of_zero_le (a := t) (by omega)
    have G := hide (genR_yes h1)
    by_cases h2 : 1 ≤ xs.length
    case neg =>
      have h2' : (xs.length : Int) < 1 := by omega
      clear h1 hw h2
      go_enter Tryd.func20, Tryd.ntmps20
      go_wp2_with fail
      refine (generatorOf_calls _ _ T.out).mono ?_
      rw [G.out]
      rintro e w1 ⟨v1, rfl, ho1, hb1⟩
      have B1 := hide hb1
      clear ho1 hb1
      go_wp2
      go_ret2
      exact ⟨rfl, B1.out⟩
    have h2' : ¬ (xs.length : Int) < 1 := by omega
    by_cases h3 : (xs.length : Int) ≤ 24 - 2 * (n : Int)
    case neg =>
      have h3' : (24 : Int) - ((2 * n : Nat) : Int) < (xs.length : Int) := by omega
      clear h1 hw h2 h3
      go_enter Tryd.func20, Tryd.ntmps20
      go_wp2_with fail
      refine (generatorOf_calls _ _ T.out).mono ?_
      rw [G.out]
      rintro e w1 ⟨v1, rfl, ho1, hb1⟩
      have B1 := hide hb1
      clear ho1 hb1
      go_wp2_with fail
      refine (checksOf_calls n _ (by omega)).mono ?_
      rintro e w' ⟨rfl, rfl⟩
      go_wp2
      go_ret2
      exact ⟨rfl, B1.out⟩
    have h3' : ¬ (24 : Int) - ((2 * n : Nat) : Int) < (xs.length : Int) := by omega
    have h4 : xs.all elOk = false := by
      cases hh : xs.all elOk with
      | false => rfl
      | true => rw [meOk_mk h1 h2 h3 hh] at hw; cases hw
    have E := hide h4
    clear h1 hw h2 h3 h4
    go_enter Tryd.func20, Tryd.ntmps20
    go_wp2_with fail
    refine (generatorOf_calls _ _ T.out).mono ?_
    rw [G.out]
    rintro e w1 ⟨v1, rfl, ho1, hb1⟩
    have B1 := hide hb1
    clear ho1 hb1
    go_wp2_with fail
    refine (checksOf_calls n _ (by omega)).mono ?_
    rintro e w' ⟨rfl, rfl⟩
    go_wp2_with fail
    refine (areElements_calls _ xs _ (R.out.below B1.out)).mono ?_
    rw [E.out]
    rintro e w' ⟨rfl, rfl⟩
    go_wp2
    go_ret2
    exact ⟨rfl, B1.out⟩

set_option maxRecDepth 100000 in
set_option maxHeartbeats 3200000 in
theorem encodeWord_calls (v : Value) (xs : List Int) (t : Int) (w : World) (hT : Tab w) (h : Rd w v xs) :
    Calls Tryd.prog 20 #[v, .int .i64 t] w fun e w' => ∃ v', e = .returned (.tuple #[v', .bool (encW xs t).2]) ∧ Own w' w.heap.size v' (encW xs t).1 ∧ Below w.heap.size w w' := by
  cases hw : meOk xs t with
  | false =>
    rw [encW_no hw]
    refine (encodeWord_no v xs t w hT h hw).mono ?_
    rintro e w' ⟨rfl, hb⟩
    exact ⟨_, rfl, own_nil _ _, hb⟩
  | true =>
    rw [encW_yes hw]
    have T := hide hT
    have R := hide h
    obtain ⟨a, cap, rfl, _, _, _⟩ := h
    obtain ⟨h1, h2, h3, h4⟩ := meOk_yes hw
    obtain ⟨q1, q3⟩ := wOk_iff.1 h1
    obtain ⟨n, rfl⟩ := Int.eq_ofNat_of_zero_le (a := t) (by omega)
    rw [Int.toNat_natCast]
    have G := hide (genR_yes h1)
    have E := hide h4
    have h2' : ¬ (xs.length : Int) < 1 := by omega
    have h3' : ¬ (24 : Int) - ((2 * n : Nat) : Int) < (xs.length : Int) := by omega
    have hl : xs.length ≤ 24 := by omega
    clear hw hT h1 h4
    go_enter Tryd.func20, Tryd.ntmps20
    go_wp2_with fail
    refine (generatorOf_calls _ _ T.out).mono ?_
    rw [G.out, Int.toNat_natCast]
    rintro e w1 ⟨v1, rfl, ho1, hb1⟩
    have RG := hide ho1.rd
    have B1 := hide hb1
    clear ho1 hb1
    go_wp2_with fail
    refine (checksOf_calls n _ (by omega)).mono ?_
    rintro e w' ⟨rfl, rfl⟩
    go_wp2_with fail
    refine (areElements_calls _ xs _ (R.out.below B1.out)).mono ?_
    rw [E.out]
    rintro e w' ⟨rfl, rfl⟩
    go_wp2_with fail
    refine (checksOf_calls n _ (by omega)).mono ?_
    rintro e w' ⟨rfl, rfl⟩
    go_wp2_with (at_make; refine wpList_make_ints rfl _ _ rfl w1.heap.size _ _ (2 * n) rfl rfl (by omega) (by omega) (by omega) (Nat.le_refl _) ?_)
    intro w2 ho2 hg2
    have R2 := hide ho2.rd
    have B2 := hide ((Below.refl w1.heap.size w1).grown hg2 (Nat.le_refl _) (fun k h => by cases h))
    clear ho2 hg2
    go_wp2_with fail
    refine (joinInts_calls _ _ (List.replicate (2 * n) 0) xs _ R2.out ((R.out.below B1.out).below B2.out) (by rw [List.length_replicate]; omega) (by omega) (by rw [List.length_replicate]; omega) (by omega)).mono ?_
    rintro e w3 ⟨N, hN, rfl, ho3, hb3⟩
    have hN' : N = 2 * n + xs.length := by rw [hN, List.length_replicate]
    have O3 := hide (show Own w3 w2.heap.size _ (rawW xs n) from ho3)
    have B3 := hide hb3
    have HN := hide hN'
    have hN30 : N ≤ 30 := by omega
    clear ho3 hb3 hN hN'
    go_wp2_with fail
    refine (without_calls _ (rawW xs n) _ O3.out.rd (by rw [rawW_length]; omega)).mono ?_
    rintro e w4 ⟨v4, rfl, ho4, hb4⟩
    have R4 := hide ho4.rd
    have O4 := hide (O3.out.below hb4)
    have B4 := hide hb4
    have s1 := B1.out.size
    have s2 := B2.out.size
    have s3 := B3.out.size
    have s4 := hb4.size
    clear ho4 hb4 O3
    go_wp2_with fail
    refine (divPoly_calls _ _ (cutL (rawW xs n)) (genI (2 * n)) _ ((((T.out.below B1.out).below B2.out).below B3.out).below B4.out) R4.out (((RG.out.below B2.out).below B3.out).below B4.out)).mono ?_
    rintro e w5 ⟨v5, v6, rfl, ho5, ho6, _, hb5⟩
    have O5 := hide (O4.out.below hb5)
    have R6 := hide (show Rd w5 v6 (restW xs n) from ho6.rd)
    have B5 : Hid (Below w2.heap.size w2 w5) := (B3.out.trans (B4.out.mono s3)).trans (hb5.mono (by omega))
    have hrl := rest_len (n := n) (by omega) E.out hl
    have s5 := hb5.size
    clear ho5 ho6 hb5 O4 R4
    have fin : ∀ w6, Own w6 w2.heap.size (.slice (some ⟨w2.heap.size, 0, none⟩) N N) (wordW xs n) → Below w2.heap.size w2 w6 → Own w6 w.heap.size (.slice (some ⟨w2.heap.size, 0, none⟩) N N) (wordW xs n) ∧ Below w.heap.size w w6 := fun w6 h1 h2 =>
      ⟨h1.mono (by omega), B1.out.trans ((B2.out.mono s1).trans (h2.mono (by omega)))⟩
    have FIN := hide fin
    clear fin
    by_cases h0 : (restW xs n).length = 0
    · have he : restW xs n = [] := List.eq_nil_of_length_eq_zero h0
      have O6 : Hid (Own w5 w2.heap.size (.slice (some ⟨w2.heap.size, 0, none⟩) N N) (wordW xs n)) := by
        have : wordW xs n = rawW xs n := by unfold wordW; rw [he]; simp [spl]
        rw [this]; exact O5.out
      obtain ⟨a6, c6, rfl, _, _, _⟩ := R6.out
      rw [h0]
      clear he
      go_wp2_with (refine wpList_copy_nothing rfl (.tmp 50) (.tmp 51) 22 22 rfl 3 Tryd.underlying22 infoSize _ _ _ _ 0 _ rfl rfl (by simp) ?_)
      go_wp2
      go_ret2
      exact ⟨_, rfl, FIN.out _ O6.out B5.out⟩
    · obtain ⟨a6, c6, rfl, _, _, _⟩ := R6.out
      go_wp2_with (refine wpList_copy_at rfl (.tmp 50) (.tmp 51) rfl w2.heap.size w2.heap.size N 0 N N _ _ _ (rawW xs n) (restW xs n) rfl rfl O5.out R6.out (by omega) (by have := HN.out; omega) (by rw [rawW_length]; omega) ?_)
      intro w6 ho6 hg6
      have O6 := hide (show Own w6 w2.heap.size (.slice (some ⟨w2.heap.size, 0, none⟩) N N) (wordW xs n) from ho6)
      have B6 : Hid (Below w2.heap.size w2 w6) := B5.out.grown hg6 B5.out.size (fun k hk => by cases hk; exact Nat.le_refl _)
      clear ho6 hg6
      go_wp2
      go_ret2
      exact ⟨_, rfl, FIN.out _ O6.out B6.out⟩
end Gf
end Go.Proofs.YtogopakmebiomaaDoor

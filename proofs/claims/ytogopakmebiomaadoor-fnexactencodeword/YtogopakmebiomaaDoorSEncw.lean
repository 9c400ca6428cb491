/-
  The word of a message: the model's EncodeWord, call by call. No condition.
-/
import Derived.Test.YtogopakmebiomaaDoorEncw
namespace Go.Proofs.YtogopakmebiomaaDoor
open Go.RowKit
namespace Gf

theorem spl_zero (raw : List Int) : spl raw 0 (([] : List Int).take 0) = raw := by simp [spl]
theorem spl_step {raw rest : List Int} {k : Nat} (hk : k < rest.length) (hl : rest.length ≤ raw.length) : (spl raw 0 (rest.take k)).set k (rest.getD k 0) = spl raw 0 (rest.take (k + 1)) := by
  have e1 : (rest.take k).length = k := by rw [List.length_take]; omega
  have e2 : (rest.take (k + 1)).length = k + 1 := by rw [List.length_take]; omega
  unfold spl
  rw [List.take_zero, List.nil_append, List.nil_append, e1, e2, Nat.zero_add, Nat.zero_add, List.set_append_right _ _ (by omega), e1, Nat.sub_self, List.drop_eq_getElem_cons (show k < raw.length by omega), List.set_cons_zero, take_snoc2 rest k hk, List.append_assoc]
  rfl

set_option maxRecDepth 100000 in
set_option maxHeartbeats 3200000 in
theorem sEncodeWord_no (v : Value) (xs : List Int) (t : Int) (w : World) (h : Rd w v xs) (hw : meOk xs t = false) :
    Calls Tryd.prog 18 #[v, .int .i64 t] w fun e w' => e = .returned (.tuple #[.slice none 0 0, .bool false]) ∧ w = w' := by
  have R := hide h
  obtain ⟨a, cap, rfl, g1, g2, _⟩ := h
  have hm : xs.length ≤ maxLen := by omega
  unfold maxLen at hm
  clear g1 g2
  cases h1 : wOk t with
  | false =>
    have G := hide h1
    clear h1 hw
    go_enter Tryd.func18, Tryd.ntmps18
    go_wp2_with fail
    refine (l4Wrong_calls t _).mono ?_
    rw [G.out]
    rintro e w' ⟨rfl, rfl⟩
    go_wp2
    go_ret2
    exact ⟨rfl, rfl⟩
  | true =>
    obtain ⟨q1, q3⟩ := wOk_iff.1 h1
    have G := hide h1
    by_cases h2 : 1 ≤ (xs.length : Int) ∧ (xs.length : Int) ≤ 24 - 2 * t
    case neg =>
      have D := hide (decide_eq_false h2)
      clear h1 hw h2
      go_enter Tryd.func18, Tryd.ntmps18
      go_wp2_with fail
      refine (l4Wrong_calls t _).mono ?_
      rw [G.out]
      rintro e w' ⟨rfl, rfl⟩
      go_wp2_with fail
      refine (l1In_calls _ _ _ _).mono ?_
      rw [D.out]
      rintro e w' ⟨rfl, rfl⟩
      go_wp2
      go_ret2
      exact ⟨rfl, rfl⟩
    have h4 : xs.all elOk = false := by
      cases hh : xs.all elOk with
      | false => rfl
      | true => rw [meOk_mk h1 (by omega) h2.2 hh] at hw; cases hw
    have E := hide h4
    have D := hide (decide_eq_true h2)
    clear h1 hw h2 h4
    go_enter Tryd.func18, Tryd.ntmps18
    go_wp2_with fail
    refine (l4Wrong_calls t _).mono ?_
    rw [G.out]
    rintro e w' ⟨rfl, rfl⟩
    go_wp2_with fail
    refine (l1In_calls _ _ _ _).mono ?_
    rw [D.out]
    rintro e w' ⟨rfl, rfl⟩
    go_wp2_with fail
    refine (l1All_calls _ xs _ R.out).mono ?_
    rw [E.out]
    rintro e w' ⟨rfl, rfl⟩
    go_wp2
    go_ret2
    exact ⟨rfl, rfl⟩

set_option maxRecDepth 100000 in
set_option maxHeartbeats 3200000 in
theorem sEncodeWord_calls (v : Value) (xs : List Int) (t : Int) (w : World) (h : Rd w v xs) :
    Calls Tryd.prog 18 #[v, .int .i64 t] w fun e w' => ∃ v', e = .returned (.tuple #[v', .bool (encW xs t).2]) ∧ Own w' w.heap.size v' (encW xs t).1 ∧ Below w.heap.size w w' := by
  cases hw : meOk xs t with
  | false =>
    rw [encW_no hw]
    refine (sEncodeWord_no v xs t w h hw).mono ?_
    rintro e w' ⟨rfl, rfl⟩
    exact ⟨_, rfl, own_nil _ _, Below.refl _ _⟩
  | true =>
    rw [encW_yes hw]
    have R := hide h
    obtain ⟨a, cap, rfl, _, _, _⟩ := h
    obtain ⟨h1, h2, h3, h4⟩ := meOk_yes hw
    obtain ⟨q1, q3⟩ := wOk_iff.1 h1
    obtain ⟨n, rfl⟩ := Int.eq_ofNat_of_zero_le (a := t) (by omega)
    rw [Int.toNat_natCast]
    have G := hide h1
    have E := hide h4
    have D := hide (decide_eq_true (p := 1 ≤ (xs.length : Int) ∧ (xs.length : Int) ≤ 24 - 2 * (n : Int)) (by omega))
    have hl : xs.length ≤ 24 := by omega
    obtain ⟨rest, hrest⟩ : ∃ r, r = restW xs n := ⟨_, rfl⟩
    obtain ⟨raw, hraw⟩ : ∃ r, r = rawW xs n := ⟨_, rfl⟩
    have hrl := rest_len (n := n) (by omega) E.out hl
    have hral := rawW_length xs n
    have hword : wordW xs n = spl raw 0 (rest.take rest.length) := by rw [List.take_of_length_le (Nat.le_refl _), hraw, hrest]; rfl
    rw [hword]
    rw [← hrest] at hrl
    rw [← hraw] at hral
    have HR := hide hrest
    have HW := hide hraw
    have HL := hide hral
    have HRL : Hid (rest.length ≤ raw.length) := by show rest.length ≤ raw.length; omega
    clear hw h1 h4 hword hrest hraw hral
    go_enter Tryd.func18, Tryd.ntmps18
    go_wp2_with fail
    refine (l4Wrong_calls _ _).mono ?_
    rw [G.out]
    rintro e w' ⟨rfl, rfl⟩
    go_wp2_with fail
    refine (l1In_calls _ _ _ _).mono ?_
    rw [D.out]
    rintro e w' ⟨rfl, rfl⟩
    go_wp2_with fail
    refine (l1All_calls _ xs _ R.out).mono ?_
    rw [E.out]
    rintro e w' ⟨rfl, rfl⟩
    go_wp2_with (at_make; refine wpList_make_ints rfl _ _ rfl w.heap.size _ _ (2 * n) rfl rfl (by omega) (by omega) (by omega) (Nat.le_refl _) ?_)
    intro w1 ho1 hg1
    have B1 := hide ((Below.refl w.heap.size w).grown hg1 (Nat.le_refl _) (fun k h => by cases h))
    have O1 := hide ho1
    have s1 := hg1.size
    clear ho1 hg1
    go_wp2_with (at_builtin; refine wpList_append_rd rfl _ _ rfl w.heap.size _ (List.replicate (2 * n) (0 : Int)).length (List.replicate (2 * n) 0) xs rfl O1.out _ rfl (R.out.below B1.out) (by rw [List.length_replicate]; omega) s1 ?_)
    intro v2 w2 ho2 hg2
    have B2 : Hid (Below w.heap.size w w2) := B1.out.grown hg2 s1 (fun i hi => by cases hi; exact Nat.le_refl _)
    have O2 : Hid (Own w2 w.heap.size v2 raw) := by rw [HW.out]; exact ho2
    clear ho2 hg2 O1
    obtain ⟨g, cap2, hv2, hg1, hgs, _⟩ := Own.open O2.out (by rw [HL.out]; omega)
    subst hv2
    go_wp2_with fail
    refine (l1Cut_calls _ raw _ O2.out.rd (by rw [HL.out]; omega)).mono ?_
    rintro e w3 ⟨v3, rfl, ho3, hb3⟩
    have R3 := hide ho3.rd
    have B3 := hide hb3
    clear ho3 hb3
    go_wp2_with fail
    refine (l4Generator_calls n _ (by omega)).mono ?_
    rintro e w4 ⟨v4, rfl, ho4, hb4⟩
    have R4 := hide ho4.rd
    have B4 := hide hb4
    clear ho4 hb4
    have s2 := B2.out.size
    have s3 := B3.out.size
    have s4 := B4.out.size
    go_wp2_with fail
    refine (sDivPoly_calls _ _ (cutL raw) (genI (2 * n)) _ (R3.out.below B4.out) R4.out).mono ?_
    rintro e w5 ⟨v5, v6, rfl, ho5, ho6, _, hb5⟩
    have R6 : Hid (Rd w5 v6 rest) := by rw [HR.out]; have := ho6.rd; rw [HW.out] at this; exact this
    have far6 : Hid (rest.length = 0 ∨ ∃ b cap, v6 = .slice (some ⟨b, 0, none⟩) rest.length cap ∧ g < b ∧ b < w5.heap.size ∧ ∀ i, i < rest.length → w5.cell? ⟨b, i, none⟩ = some (.int .i64 (rest.getD i 0))) := by
      by_cases h0 : rest.length = 0
      · exact .inl h0
      · right
        have e : (divR (cutL raw) (genI (2 * n))).2.1 = rest := by rw [HR.out, HW.out]; rfl
        rw [e] at ho6
        obtain ⟨b, c, h1, h2, h3, h4⟩ := Own.open ho6 (by omega)
        exact ⟨b, c, h1, by omega, h3, h4⟩
    have O5 := hide (((O2.out.below B3.out).below B4.out).below hb5)
    have B5 : Hid (Below w.heap.size w w5) := B2.out.trans ((B3.out.trans ((B4.out.mono s3).trans (hb5.mono (by omega)))).mono s2)
    have s5 := hb5.size
    clear ho5 ho6 hb5 O2
    obtain ⟨a6, c6, rfl, _, _, _⟩ := R6.out
    obtain ⟨N, hN⟩ : ∃ N, N = raw.length := ⟨_, rfl⟩
    rw [← hN]
    have HN := hide hN
    have O6 : Hid (w5.ownsRow w.heap.size 3 1 (.slice (some ⟨g, 0, none⟩) N cap2) N ((spl raw 0 (rest.take 0)).map (Value.int .i64))) := by
      have := O5.out
      unfold Own at this
      rw [← hN] at this
      have e : spl raw 0 (rest.take 0) = raw := by simp [spl]
      rw [e]
      exact this
    have hrN : rest.length ≤ N := by rw [hN]; exact HRL.out
    have hNb : N ≤ 30 := by rw [hN, HL.out]; omega
    have SL : Hid (∀ k, k ≤ rest.length → (spl raw 0 (rest.take k)).length = N) := fun k hk => by
      rw [spl_length _ _ _ (by rw [List.length_take]; have := HRL.out; omega), hN]
    clear hN O5
    go_wp2
    go_loopw [45] (fun vk wr => ∃ k : Nat, k ≤ rest.length ∧ vk = .int .i64 k ∧ wr.ownsRow w.heap.size 3 1 (.slice (some ⟨g, 0, none⟩) N cap2) N ((spl raw 0 (rest.take k)).map (Value.int .i64)) ∧ w5.grownBy wr (some g)) (fun vk _ => rest.length - (intOf vk).toNat)
    case atStart => exact ⟨0, Nat.zero_le _, rfl, O6.out, World.grownBy.refl _ _⟩
    case round =>
      obtain ⟨k, hk, rfl, ho, hg⟩ := hrel
      have O := hide ho
      have GG := hide hg
      clear ho hg
      by_cases hlt : k < rest.length
      · have hlt' : (k : Int) < (rest.length : Int) := by omega
        have hkN : (k : Int) < (N : Int) := by omega
        obtain ⟨b, rfl, hne, hb6, hc6⟩ : ∃ b, a6 = some ⟨b, 0, none⟩ ∧ g < b ∧ b < w5.heap.size ∧ ∀ i, i < rest.length → w5.cell? ⟨b, i, none⟩ = some (.int .i64 (rest.getD i 0)) := by
          rcases far6.out with h | ⟨b, c, hv, h⟩
          · omega
          · simp only [Value.slice.injEq] at hv
            exact ⟨b, hv.1, h⟩
        obtain ⟨x, hx⟩ : ∃ x, x = rest.getD k 0 := ⟨_, rfl⟩
        have hc1 : wr.cell? ⟨b, k, none⟩ = some (.int .i64 x) := by
          rw [hx, ← hc6 k hlt]
          unfold World.cell?
          rw [GG.out.block b hb6 (by simp; omega)]
        have X := hide hx
        have hcf : wr.frozen? ⟨g, k, none⟩ = false := O.out.frozenAt k
        obtain ⟨old, hc3⟩ : ∃ old, wr.cell? ⟨g, k, none⟩ = some old := by
          rw [O.out.cellAt k (by omega)]
          have := SL.out k hk
          exact ⟨_, List.getElem?_eq_getElem (by simp; omega)⟩
        have K := hide (O.out.stored k (.int .i64 x))
        clear hx hc6 hne
        go_wp2
        go_roundw
        case rel =>
          refine ⟨k + 1, by omega, by go_num, ?_, grownBy_trans GG.out K.out.2⟩
          have := K.out.1
          rw [← List.map_set, X.out, spl_step hlt HRL.out] at this
          rw [X.out]
          exact this
        case measure => simp [intOf]; omega
      · obtain rfl : k = rest.length := by omega
        have O1 : Hid (Own wr w.heap.size (.slice (some ⟨g, 0, none⟩) N cap2) (spl raw 0 (rest.take rest.length))) := by
          show World.ownsRow _ _ _ _ _ (spl raw 0 (rest.take rest.length)).length _
          rw [SL.out _ (Nat.le_refl _)]
          exact O.out
        have BB : Hid (Below w.heap.size w wr) := B5.out.grown GG.out (by omega) (fun i hi => by cases hi; exact hg1)
        clear O
        go_wp2
        go_ret2
        exact ⟨_, rfl, O1.out, BB.out⟩
end Gf
end Go.Proofs.YtogopakmebiomaaDoor

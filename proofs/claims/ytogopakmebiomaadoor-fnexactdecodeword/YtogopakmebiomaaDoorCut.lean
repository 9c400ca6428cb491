/-
  Noughts taken off a list's end: the program's function and its model's, call by call: each answers new memory that holds the list without them. Each contract says what it asks.
-/
import Derived.Test.YtogopakmebiomaaDoorPolyMul
namespace Go.Proofs.YtogopakmebiomaaDoor
open Go.RowKit

def cutN (xs : List Int) : Nat → Nat
  | 0 => 0
  | n + 1 => if xs.getD n 0 = 0 then cutN xs n else n + 1
theorem cutN_le (xs : List Int) (n : Nat) : cutN xs n ≤ n := by
  induction n with
  | zero => exact Nat.le_refl _
  | succ n ih =>
    simp only [cutN]
    split
    · omega
    · exact Nat.le_refl _
def cutL (xs : List Int) : List Int := xs.take (cutN xs xs.length)
theorem cutL_length (xs : List Int) : (cutL xs).length = cutN xs xs.length := by
  have := cutN_le xs xs.length
  simp [cutL]; omega
set_option maxRecDepth 100000 in
set_option maxHeartbeats 800000 in
theorem without_calls (v : Value) (xs : List Int) (w : World) (h : Rd w v xs) (hlen : xs.length ≤ 1048576) :
    Calls Tryd.prog 75 #[v] w fun e w' => ∃ v', e = .returned v' ∧ Own w' w.heap.size v' (cutL xs) ∧ Below w.heap.size w w' := by
  have R := hide h
  obtain ⟨a, cap, rfl, h1, h2, h3⟩ := h
  have H := hide h3
  clear h3
  go_enter Tryd.func75, Tryd.ntmps75
  go_wp2
  go_loop [3] (fun vn => ∃ n : Nat, n ≤ xs.length ∧ vn = .int .i64 n ∧ cutN xs n = cutN xs xs.length) (fun vn => (intOf vn).toNat)
  case atStart => exact ⟨xs.length, Nat.le_refl _, rfl, rfl⟩
  case round =>
    obtain ⟨n, hn, rfl, hcut⟩ := hrel
    have C := hide hcut
    clear hcut
    by_cases hmore : ∃ m, n = m + 1 ∧ xs.getD m 0 = 0
    · obtain ⟨m, rfl, hz⟩ := hmore
      rcases H.out with h3 | ⟨b, off, rfl, hbs, hc⟩
      · subst h3; simp at hn
      have hc1 := hc m (by omega)
      rw [hz] at hc1
      clear hc
      have Z := hide hz
      clear hz
      have e0 : (((m + 1 : Nat) : Int) - 1) = (m : Int) := by omega
      go_wp2
      go_round
      case rel =>
        refine ⟨m, by omega, by go_num, ?_⟩
        have := C.out
        rw [cutN, if_pos Z.out] at this
        exact this
      case measure => simp [intOf]
    · have hfin : cutN xs n = n := by
        cases n with
        | zero => rfl
        | succ m => rw [cutN, if_neg (fun e => hmore ⟨m, rfl, e⟩)]
      have hN : Hid (n = cutN xs xs.length) := hfin.symm.trans C.out
      have stop : (n = 0 ∧ True) ∨ ∃ m, n = m + 1 ∧ xs.getD m 0 ≠ 0 := by
        cases n with
        | zero => exact .inl ⟨rfl, trivial⟩
        | succ m => exact .inr ⟨m, rfl, fun e => hmore ⟨m, rfl, e⟩⟩
      clear hfin hmore C
      have fin : ∀ w0 w1 : World, Own w1 w.heap.size (.slice (some ⟨w.heap.size, 0, none⟩) n n) (xs.take n) → Own w1 w.heap.size (.slice (some ⟨w.heap.size, 0, none⟩) n n) (cutL xs) := by
        intro _ w1 ho
        unfold cutL
        rw [← hN.out]
        exact ho
      have FIN := hide fin
      clear fin
      rcases stop with ⟨h0, _⟩ | ⟨m, h0, hne⟩
      · subst h0
        go_wp2_with (first
          | (at_make; refine wpList_make_ints rfl _ _ rfl w.heap.size _ _ 0 rfl rfl rfl rfl (by omega) (Nat.le_refl _) ?_; intro w0 hown0 hgrow0)
          | (refine wpList_copy_fresh rfl _ _ rfl w.heap.size w.heap.size 0 _ rfl hown0 _ rfl xs (by exact R.out.below ((Below.refl _ _).grown hgrow0 (Nat.le_refl _) (fun k h => by cases h))) hn (Nat.le_refl _) (by unfold maxLen; omega) w.heap.size w ((Below.refl _ _).grown hgrow0 (Nat.le_refl _) (fun k h => by cases h)) (Nat.le_refl _) ?_; intro w1 hown1 hb1 hg1))
        go_ret
        exact ⟨_, rfl, FIN.out w0 w1 hown1, hb1⟩
      · subst h0
        rcases H.out with h3 | ⟨b, off, rfl, hbs, hc⟩
        · subst h3; simp at hn
        have hc1 := hc m (by omega)
        obtain ⟨z, hz⟩ : ∃ z, z = xs.getD m 0 := ⟨_, rfl⟩
        rw [← hz] at hc1 hne
        clear hz hc
        have hz' : (z == 0) = false := by simp; exact hne
        have e0 : (((m + 1 : Nat) : Int) - 1) = (m : Int) := by omega
        go_wp2_with (first
          | (at_make; refine wpList_make_ints rfl _ _ rfl w.heap.size _ _ (m + 1) rfl rfl (by omega) (by omega) (by omega) (Nat.le_refl _) ?_; intro w0 hown0 hgrow0)
          | (refine wpList_copy_fresh rfl _ _ rfl w.heap.size w.heap.size (m + 1) _ rfl hown0 _ rfl xs (by exact R.out.below ((Below.refl _ _).grown hgrow0 (Nat.le_refl _) (fun k h => by cases h))) hn (Nat.le_refl _) (by unfold maxLen; omega) w.heap.size w ((Below.refl _ _).grown hgrow0 (Nat.le_refl _) (fun k h => by cases h)) (Nat.le_refl _) ?_; intro w1 hown1 hb1 hg1))
        go_ret
        exact ⟨_, rfl, FIN.out w0 w1 hown1, hb1⟩

theorem rd_takep {w : World} {a : Option Addr} {cap n : Nat} {xs : List Int} (h : Rd w (.slice a xs.length cap) xs) (hn : n ≤ xs.length) : Rd w (.slice a n cap) (xs.take n) := by
  obtain ⟨a', cap', hv, h1, h2, h3⟩ := h
  simp only [Value.slice.injEq, true_and] at hv
  obtain ⟨rfl, rfl⟩ := hv
  have hl : (xs.take n).length = n := by rw [List.length_take]; omega
  refine ⟨a, cap, by rw [hl], by omega, h2, ?_⟩
  by_cases h0 : n = 0
  · left; subst h0; simp
  · rcases h3 with h3 | ⟨b, off, rfl, hb, hc⟩
    · subst h3; simp at hn; exact absurd hn h0
    · refine .inr ⟨b, off, rfl, hb, fun i hi => ?_⟩
      rw [hl] at hi
      rw [hc i (by omega), List.getD_eq_getElem?_getD, List.getD_eq_getElem?_getD, List.getElem?_take, if_pos hi]

set_option maxRecDepth 100000 in
set_option maxHeartbeats 800000 in
theorem l1Cut_calls (v : Value) (xs : List Int) (w : World) (h : Rd w v xs) (hlen : xs.length ≤ 1048576) :
    Calls Tryd.prog 71 #[v] w fun e w' => ∃ v', e = .returned v' ∧ Own w' w.heap.size v' (cutL xs) ∧ Below w.heap.size w w' := by
  have R := hide h
  obtain ⟨a, cap, rfl, h1, h2, h3⟩ := h
  have hcm := h2.1
  unfold maxLen at hcm
  have H := hide h3
  clear h3 h2
  go_enter Tryd.func71, Tryd.ntmps71
  go_wp2
  go_loop [0] (fun vp => ∃ n : Nat, n ≤ xs.length ∧ vp = .slice a n cap ∧ cutN xs n = cutN xs xs.length) (fun vp => Gf.lenOf vp)
  case atStart => exact ⟨xs.length, Nat.le_refl _, rfl, rfl⟩
  case round =>
    obtain ⟨n, hn, rfl, hcut⟩ := hrel
    have C := hide hcut
    clear hcut
    by_cases hmore : ∃ m, n = m + 1 ∧ xs.getD m 0 = 0
    · obtain ⟨m, rfl, hz⟩ := hmore
      rcases H.out with h3 | ⟨b, off, rfl, hbs, hc⟩
      · subst h3; simp at hn
      have hc1 := hc m (by omega)
      rw [hz] at hc1
      clear hc
      have Z := hide hz
      clear hz
      have e0 : (((m + 1 : Nat) : Int) - 1) = (m : Int) := by omega
      have e1 : (m : Int) ≤ (cap : Int) := by omega
      go_wp2
      go_round
      case rel =>
        refine ⟨m, by omega, ?_, ?_⟩
        · first | rfl | simp
        · have := C.out
          rw [cutN, if_pos Z.out] at this
          exact this
      case measure => simp [Gf.lenOf]
    · have hfin : cutN xs n = n := by
        cases n with
        | zero => rfl
        | succ m => rw [cutN, if_neg (fun e => hmore ⟨m, rfl, e⟩)]
      have hN : Hid (n = cutN xs xs.length) := hfin.symm.trans C.out
      have stop : (n = 0 ∧ True) ∨ ∃ m, n = m + 1 ∧ xs.getD m 0 ≠ 0 := by
        cases n with
        | zero => exact .inl ⟨rfl, trivial⟩
        | succ m => exact .inr ⟨m, rfl, fun e => hmore ⟨m, rfl, e⟩⟩
      clear hfin hmore C
      have RR : Hid (Rd (w.alloc (.cells #[] 3)) (.slice a n cap) (cutL xs)) := by
        have := rd_takep R.out hn
        unfold cutL
        rw [← hN.out]
        exact this.below ((Below.refl _ _).alloc (Nat.le_refl _) _)
      have OO : Hid (Own (w.alloc (.cells #[] 3)) w.heap.size (.slice (some ⟨w.heap.size, 0, none⟩) 0 0) []) :=
        World.ownsRow_lit w #[] 0 (Nat.le_refl _) (Nat.zero_le _) (by rfl)
      have LL : Hid (0 + (cutL xs).length ≤ 1073741824) := by
        have := cutL_length xs
        have := cutN_le xs xs.length
        show 0 + (cutL xs).length ≤ 1073741824
        omega
      rcases stop with ⟨h0, _⟩ | ⟨m, h0, hne⟩
      · subst h0
        go_wp2_with (at_builtin; refine wpList_append_rd rfl _ _ rfl w.heap.size _ 0 [] (cutL xs) rfl OO.out _ rfl RR.out LL.out (by simp) ?_; intro v' w1 hown1 hg1)
        go_ret
        refine ⟨_, rfl, hown1, ((Below.refl _ _).alloc (Nat.le_refl _) _).grown hg1 (by simp) ?_⟩
        exact fun k hk => (OO.out.lt k hk).1
      · subst h0
        rcases H.out with h3 | ⟨b, off, rfl, hbs, hc⟩
        · subst h3; simp at hn
        have hc1 := hc m (by omega)
        obtain ⟨z, hz⟩ : ∃ z, z = xs.getD m 0 := ⟨_, rfl⟩
        rw [← hz] at hc1 hne
        clear hz hc
        have hz' : (z == 0) = false := by simp; exact hne
        have e0 : (((m + 1 : Nat) : Int) - 1) = (m : Int) := by omega
        go_wp2_with (at_builtin; refine wpList_append_rd rfl _ _ rfl w.heap.size _ 0 [] (cutL xs) rfl OO.out _ rfl RR.out LL.out (by simp) ?_; intro v' w1 hown1 hg1)
        go_ret
        refine ⟨_, rfl, hown1, ((Below.refl _ _).alloc (Nat.le_refl _) _).grown hg1 (by simp) ?_⟩
        exact fun k hk => (OO.out.lt k hk).1
end Go.Proofs.YtogopakmebiomaaDoor

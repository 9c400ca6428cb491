/-
  The value of a polynomial: the program's EvalGf and its model's at good arguments and at all others; the law that holds the two against each other. The program's table of rests must hold its seven numbers where the program's own function is called.
-/
import Derived.Test.YtogopakmebiomaaDoorPoly
import Derived.Test.YtogopakmebiomaaDoorFrame
namespace Go.Proofs.YtogopakmebiomaaDoor
open Go.RowKit
namespace Gf

set_option maxRecDepth 100000 in
set_option maxHeartbeats 400000 in
theorem evalGf_bad (v : Value) (xs : List Int) (x : Int) (w : World) (h : Rd w v xs) (hg : goodP xs = false ∨ elOk x = false) :
    Calls Tryd.prog 78 #[v, .int .i64 x] w fun e w' => e = .returned (.tuple #[.int .i64 0, .bool false]) ∧ w = w' := by
  have R := hide h
  clear h
  cases hp : goodP xs with
  | false =>
    have G := hide hp
    clear hp hg
    go_enter Tryd.func78, Tryd.ntmps78
    go_wp2_with (go_at_call 124; refine (isPoly_calls v xs _ R.out).mono ?_; rw [G.out]; rintro e w' ⟨rfl, rfl⟩)
    go_ret2
    exact ⟨rfl, rfl⟩
  | true =>
    have G := hide hp
    have E : Hid (elOk x = false) := by rcases hg with h | h
                                        · rw [hp] at h; cases h
                                        · exact h
    clear hp hg
    go_enter Tryd.func78, Tryd.ntmps78
    go_wp2_with (first
      | (go_at_call 124; refine (isPoly_calls v xs _ R.out).mono ?_; rw [G.out]; rintro e w' ⟨rfl, rfl⟩)
      | (go_at_call 129; refine (isE_calls _ _).mono ?_; rw [E.out]; rintro e w' ⟨rfl, rfl⟩))
    go_ret2
    exact ⟨rfl, rfl⟩

set_option maxRecDepth 100000 in
set_option maxHeartbeats 400000 in
theorem evalGf_good (v : Value) (xs : List Int) (x : Int) (w : World) (hT : Tab w) (h : Rd w v xs) (hg : goodP xs = true) (hx0 : 0 ≤ x) (hx : x ≤ 255) :
    Calls Tryd.prog 78 #[v, .int .i64 x] w fun e w' => e = .returned (.tuple #[.int .i64 (ev x.toNat xs : Nat), .bool true]) ∧ Below w.heap.size w w' := by
  obtain ⟨X, rfl⟩ := Int.eq_ofNat_of_zero_le hx0
  rw [Int.toNat_natCast]
  have R := hide h
  have P := hide hg
  have G := hide (goodP_all hg)
  have T := hide hT
  clear hg hT
  obtain ⟨a, cap, rfl, h1, h2, h3⟩ := h
  have hm : xs.length ≤ maxLen := by omega
  unfold maxLen at hm
  have H := hide h3
  clear h3 h2
  have hx' : (X : Int) < 256 := by omega
  go_enter Tryd.func78, Tryd.ntmps78
  go_wp2_with (first
      | (go_at_call 124; refine (isPoly_calls _ xs _ R.out).mono ?_; rw [P.out]; rintro e w' ⟨rfl, rfl⟩)
      | (go_at_call 129; refine (isE_yes _ _ hx0 hx').mono ?_; rintro e w' ⟨rfl, rfl⟩))
  go_loopw [6, 7] (fun vv vk wr => ∃ j : Nat, j ≤ xs.length ∧ vk = .int .i64 ((j : Int) - 1) ∧ vv = .int .i64 (evTo X xs j : Nat) ∧ Below w.heap.size w wr) (fun _ vk _ => (intOf vk + 1).toNat)
  case atStart => exact ⟨xs.length, Nat.le_refl _, rfl, by simp [evTo, ev], Below.refl _ _⟩
  case round =>
    obtain ⟨j, hj, rfl, rfl, hb⟩ := hrel
    by_cases hlt : 0 < j
    · obtain ⟨k, rfl⟩ : ∃ k, j = k + 1 := ⟨j - 1, by omega⟩
      rcases H.out with h3 | ⟨b, off, rfl, hbs, hc⟩
      · subst h3; simp at hj
      have hk : k < xs.length := by omega
      have hc1 : wr.cell? ⟨b, off + k, none⟩ = some (.int .i64 (xs.getD k 0)) := (hb.cell (by exact hbs)).trans (hc k hk)
      clear hc
      have hgk := G.out k hk
      obtain ⟨z, hz⟩ : ∃ z, z = xs.getD k 0 := ⟨_, rfl⟩
      rw [← hz] at hc1 hgk
      have Z := hide hz
      clear hz
      have hlt1 : evTo X xs (k + 1) < 256 := ev_drop_lt G.out
      obtain ⟨y, hy⟩ : ∃ y, y = evTo X xs (k + 1) := ⟨_, rfl⟩
      rw [← hy] at hlt1 ⊢
      have Y := hide hy
      clear hy
      have e0 : (((k + 1 : Nat) : Int) - 1) = (k : Int) := by omega
      rw [e0]
      have Tr := hide (T.out.below hb)
      go_wp2
      go_quiet ((go_at_call 85; exact quiet_same (mulE_calls _ _ _ (Tr.out.drewN _) (by omega) (by omega) (by omega) (by omega))))
      go_wp2
      go_roundw
      case rel =>
        refine ⟨k, by omega, by go_num, int_eq ?_, below_drewN hb _⟩
        rw [xor_val (mul_lt (by omega)) hgk.1 hgk.2]
        show _ = ((ev X (xs.drop k) : Nat) : Int)
        rw [ev_drop hk, ← Z.out]
        have := Y.out
        unfold evTo at this
        rw [← this]
      case measure => simp [intOf]
    · obtain rfl : j = 0 := by omega
      go_wp2
      go_ret2
      exact ⟨rfl, hb⟩
end Gf

theorem IsRow.rd {w : World} {a : Option Addr} {len cap : Nat} {zs : List Int} (h : Frame.IsRow .i64 w a len cap zs) : Rd w (.slice a len cap) (zs.take len) := by
  rcases h with ⟨rfl, rfl, rfl, rfl⟩ | ⟨⟨b, off, sp⟩, rfl, hl, hm, hz, hc, _⟩
  · exact ⟨none, 0, rfl, Nat.le_refl _, ⟨Nat.zero_le _, fun _ => rfl⟩, .inl rfl⟩
  · have el : (zs.take len).length = len := by rw [List.length_take]; omega
    refine ⟨_, cap, by rw [el], by rw [el]; exact hl, ⟨hm, fun h => by cases h⟩, ?_⟩
    by_cases h0 : len = 0
    · left
      subst h0
      simp
    · right
      have h00 := hc 0 (by omega)
      obtain rfl : sp = none := by simpa [Addr.add] using World.cell?_spot h00
      refine ⟨b, off, rfl, ?_, ?_⟩
      · have : w.cell? ⟨b, off, none⟩ = some (.int .i64 (zs.getD 0 0)) := by simpa [Addr.add] using h00
        unfold World.cell? at this
        cases hh : w.heap[b]? with
        | none => simp [hh] at this
        | some o => exact (Array.getElem?_eq_some_iff.1 hh).1
      · intro i hi
        rw [el] at hi
        have := hc i (by omega)
        have hadd : (⟨b, off, none⟩ : Addr).add i = ⟨b, off + i, none⟩ := by unfold Addr.add; split <;> simp_all
        rw [hadd] at this
        rw [this, List.getD_eq_getElem?_getD, List.getD_eq_getElem?_getD, List.getElem?_take, if_pos hi]

end Go.Proofs.YtogopakmebiomaaDoor

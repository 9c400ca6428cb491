/-
  The value of a polynomial: the program's EvalGf and its model's at good arguments and at all others; the law that holds the two against each other. The program's table of rests must hold its seven numbers where the program's own function is called.
-/
import Derived.Test.YtoipcoidcaijjaaDoorPoly
import Derived.Test.YtoipcoidcaijjaaDoorFrame
namespace Go.Proofs.YtoipcoidcaijjaaDoor
open Go.RowKit
namespace Gf

set_option maxRecDepth 100000 in
set_option maxHeartbeats 400000 in
theorem sEvalGf_good (v : Value) (xs : List Int) (x : Int) (w : World) (h : Rd w v xs) (hg : goodP xs = true) (hx0 : 0 ≤ x) (hx : x ≤ 255) :
    Calls Tryd.prog 30 #[v, .int .i64 x] w fun e w' => e = .returned (.tuple #[.int .i64 (ev x.toNat xs : Nat), .bool true]) ∧ Below w.heap.size w w' := by
  have R := hide h
  have G := hide hg
  clear h hg
  go_enter Tryd.func30, Tryd.ntmps30
  go_wp2_with (first
    | (go_at_call 82; refine (l1Poly_calls v xs _ R.out).mono ?_; rw [G.out]; rintro e w' ⟨rfl, rfl⟩)
    | (go_at_call 90; refine (l1Gf_yes _ _ hx0 hx).mono ?_; rintro e w' ⟨rfl, rfl⟩)
    | (go_at_call 91; refine (l1Eval_calls v xs _ _ R.out hx0 hx (goodP_all G.out)).mono ?_; rintro e w' ⟨rfl, hb⟩))
  go_ret2
  exact ⟨rfl, hb⟩
set_option maxRecDepth 100000 in
set_option maxHeartbeats 400000 in
theorem sEvalGf_bad (v : Value) (xs : List Int) (x : Int) (w : World) (h : Rd w v xs) (hg : goodP xs = false ∨ elOk x = false) :
    Calls Tryd.prog 30 #[v, .int .i64 x] w fun e w' => e = .returned (.tuple #[.int .i64 0, .bool false]) ∧ w = w' := by
  have R := hide h
  clear h
  cases hp : goodP xs with
  | false =>
    have G := hide hp
    clear hp hg
    go_enter Tryd.func30, Tryd.ntmps30
    go_wp2_with (go_at_call 82; refine (l1Poly_calls v xs _ R.out).mono ?_; rw [G.out]; rintro e w' ⟨rfl, rfl⟩)
    go_ret2
    exact ⟨rfl, rfl⟩
  | true =>
    have G := hide hp
    have E : Hid (elOk x = false) := by rcases hg with h | h
                                        · rw [hp] at h; cases h
                                        · exact h
    clear hp hg
    go_enter Tryd.func30, Tryd.ntmps30
    go_wp2_with (first
      | (go_at_call 82; refine (l1Poly_calls v xs _ R.out).mono ?_; rw [G.out]; rintro e w' ⟨rfl, rfl⟩)
      | (go_at_call 90; refine (l1Gf_calls _ _).mono ?_; rw [E.out]; rintro e w' ⟨rfl, rfl⟩))
    go_ret2
    exact ⟨rfl, rfl⟩
set_option maxRecDepth 100000 in
set_option maxHeartbeats 400000 in
theorem evalGf_bad (v : Value) (xs : List Int) (x : Int) (w : World) (h : Rd w v xs) (hg : goodP xs = false ∨ elOk x = false) :
    Calls Tryd.prog 24 #[v, .int .i64 x] w fun e w' => e = .returned (.tuple #[.int .i64 0, .bool false]) ∧ w = w' := by
  have R := hide h
  clear h
  cases hp : goodP xs with
  | false =>
    have G := hide hp
    clear hp hg
    go_enter Tryd.func24, Tryd.ntmps24
    go_wp2_with (go_at_call 77; refine (isPoly_calls v xs _ R.out).mono ?_; rw [G.out]; rintro e w' ⟨rfl, rfl⟩)
    go_ret2
    exact ⟨rfl, rfl⟩
  | true =>
    have G := hide hp
    have E : Hid (elOk x = false) := by rcases hg with h | h
                                        · rw [hp] at h; cases h
                                        · exact h
    clear hp hg
    go_enter Tryd.func24, Tryd.ntmps24
    go_wp2_with (first
      | (go_at_call 77; refine (isPoly_calls v xs _ R.out).mono ?_; rw [G.out]; rintro e w' ⟨rfl, rfl⟩)
      | (go_at_call 86; refine (isE_calls _ _).mono ?_; rw [E.out]; rintro e w' ⟨rfl, rfl⟩))
    go_ret2
    exact ⟨rfl, rfl⟩

set_option maxRecDepth 100000 in
set_option maxHeartbeats 400000 in
theorem evalGf_good (v : Value) (xs : List Int) (x : Int) (w : World) (hT : Tab w) (h : Rd w v xs) (hg : goodP xs = true) (hx0 : 0 ≤ x) (hx : x ≤ 255) :
    Calls Tryd.prog 24 #[v, .int .i64 x] w fun e w' => e = .returned (.tuple #[.int .i64 (ev x.toNat xs : Nat), .bool true]) ∧ Below w.heap.size w w' := by
  obtain ⟨X, rfl⟩ := Int.eq_ofNat_of_zero_le hx0
  rw [Int.toNat_natCast]
  have R := hide h
  have P := hide hg
  have G := hide (goodP_all hg)
  have T := hide hT
  clear hg hT
  obtain ⟨a, cap, rfl, h1, h2, h3⟩ := h
  have hm : xs.length ≤ maxLen := by omega
  unfold maxLen at hm
  have H := hide h3
  clear h3 h2
  have hx' : (X : Int) < 256 := by omega
  go_enter Tryd.func24, Tryd.ntmps24
  go_wp2_with (first
      | (go_at_call 77; refine (isPoly_calls _ xs _ R.out).mono ?_; rw [P.out]; rintro e w' ⟨rfl, rfl⟩)
      | (go_at_call 86; refine (isE_yes _ _ hx0 hx').mono ?_; rintro e w' ⟨rfl, rfl⟩))
  go_loopw [6, 7] (fun vv vk wr => ∃ j : Nat, j ≤ xs.length ∧ vk = .int .i64 ((j : Int) - 1) ∧ vv = .int .i64 (evTo X xs j : Nat) ∧ Below w.heap.size w wr) (fun _ vk _ => (intOf vk + 1).toNat)
  case atStart => exact ⟨xs.length, Nat.le_refl _, rfl, by simp [evTo, ev], Below.refl _ _⟩
  case round =>
    obtain ⟨j, hj, rfl, rfl, hb⟩ := hrel
    by_cases hlt : 0 < j
    · obtain ⟨k, rfl⟩ : ∃ k, j = k + 1 := ⟨j - 1, by omega⟩
      rcases H.out with h3 | ⟨b, off, rfl, hbs, hc⟩
      · subst h3; simp at hj
      have hk : k < xs.length := by omega
      have hc1 : wr.cell? ⟨b, off + k, none⟩ = some (.int .i64 (xs.getD k 0)) := (hb.cell (by exact hbs)).trans (hc k hk)
      clear hc
      have hgk := G.out k hk
      obtain ⟨z, hz⟩ : ∃ z, z = xs.getD k 0 := ⟨_, rfl⟩
      rw [← hz] at hc1 hgk
      have Z := hide hz
      clear hz
      have hlt1 : evTo X xs (k + 1) < 256 := ev_drop_lt G.out
      obtain ⟨y, hy⟩ : ∃ y, y = evTo X xs (k + 1) := ⟨_, rfl⟩
      rw [← hy] at hlt1 ⊢
      have Y := hide hy
      clear hy
      have e0 : (((k + 1 : Nat) : Int) - 1) = (k : Int) := by omega
      rw [e0]
      have Tr := hide (T.out.below hb)
      go_wp2
      go_quiet ((go_at_call 80; exact quiet_same (mulE_calls _ _ _ (Tr.out.drewN _) (by omega) (by omega) (by omega) (by omega))))
      go_wp2
      go_roundw
      case rel =>
        refine ⟨k, by omega, by go_num, int_eq ?_, below_drewN hb _⟩
        rw [xor_val (mul_lt (by omega)) hgk.1 hgk.2]
        show _ = ((ev X (xs.drop k) : Nat) : Int)
        rw [ev_drop hk, ← Z.out]
        have := Y.out
        unfold evTo at this
        rw [← this]
      case measure => simp [intOf]
    · obtain rfl : j = 0 := by omega
      go_wp2
      go_ret2
      exact ⟨rfl, hb⟩
end Gf

theorem IsRow.rd {w : World} {a : Option Addr} {len cap : Nat} {zs : List Int} (h : Frame.IsRow .i64 w a len cap zs) : Rd w (.slice a len cap) (zs.take len) := by
  rcases h with ⟨rfl, rfl, rfl, rfl⟩ | ⟨⟨b, off, sp⟩, rfl, hl, hm, hz, hc, _⟩
  · exact ⟨none, 0, rfl, Nat.le_refl _, ⟨Nat.zero_le _, fun _ => rfl⟩, .inl rfl⟩
  · have el : (zs.take len).length = len := by rw [List.length_take]; omega
    refine ⟨_, cap, by rw [el], by rw [el]; exact hl, ⟨hm, fun h => by cases h⟩, ?_⟩
    by_cases h0 : len = 0
    · left
      subst h0
      simp
    · right
      have h00 := hc 0 (by omega)
      obtain rfl : sp = none := by simpa [Addr.add] using World.cell?_spot h00
      refine ⟨b, off, rfl, ?_, ?_⟩
      · have : w.cell? ⟨b, off, none⟩ = some (.int .i64 (zs.getD 0 0)) := by simpa [Addr.add] using h00
        unfold World.cell? at this
        cases hh : w.heap[b]? with
        | none => simp [hh] at this
        | some o => exact (Array.getElem?_eq_some_iff.1 hh).1
      · intro i hi
        rw [el] at hi
        have := hc i (by omega)
        have hadd : (⟨b, off, none⟩ : Addr).add i = ⟨b, off + i, none⟩ := by unfold Addr.add; split <;> simp_all
        rw [hadd] at this
        rw [this, List.getD_eq_getElem?_getD, List.getD_eq_getElem?_getD, List.getElem?_take, if_pos hi]

set_option maxRecDepth 100000 in
set_option maxHeartbeats 800000 in
theorem fnExactEvalGf_walk (a : Option Addr) (len cap : Nat) (zs : List Int) (x : Int) (w : World) (hT : Gf.Tab w) (hr : Frame.IsRow .i64 w a len cap zs) (_ : (Lit.int .i64 x).wf = true) :
    Calls Tryd.prog 7 #[.slice a len cap, .int .i64 x] w fun e w' => e = .returned (.bool true) ∧ Below w.heap.size w w' := by
  have hR := IsRow.rd hr
  obtain ⟨xs, hxs⟩ : ∃ xs, xs = zs.take len := ⟨_, rfl⟩
  rw [← hxs] at hR
  clear hxs hr
  have hl : xs.length = len := by
    obtain ⟨a', cap', hv, _⟩ := hR
    simp at hv
    exact hv.2.1.symm
  subst hl
  by_cases hbig : xs.length ≤ 1048576
  case neg =>
    have h' : (1048576 : Int) < (xs.length : Int) := by omega
    go_enter Tryd.func7, Tryd.ntmps7
    go_wp2
    go_ret
    exact ⟨rfl, Below.refl _ _⟩
  have h' : ¬ (1048576 : Int) < (xs.length : Int) := by omega
  have R := hide hR
  have T := hide hT
  clear hR hT
  go_enter Tryd.func7, Tryd.ntmps7
  go_wp2_with fail
  refine (toIntS_calls _ xs _ R.out hbig).mono ?_
  rintro e w1 ⟨v1, rfl, o1, b1⟩
  have O1 := hide o1
  have B1 := hide b1
  have R1 := hide (R.out.below b1)
  have T1 := hide (T.out.below b1)
  clear o1 b1 R T
  go_wp2_with fail
  have step : ∃ (r : Int) (ok : Bool), (∀ w2 v, Rd w2 v xs → Calls Tryd.prog 30 #[v, .int .i64 x] w2 fun e w' => e = .returned (.tuple #[.int .i64 r, .bool ok]) ∧ Below w2.heap.size w2 w') ∧
      (∀ w2 v, Gf.Tab w2 → Rd w2 v xs → Calls Tryd.prog 24 #[v, .int .i64 x] w2 fun e w' => e = .returned (.tuple #[.int .i64 r, .bool ok]) ∧ Below w2.heap.size w2 w') := by
    cases hp : Gf.goodP xs with
    | false => exact ⟨0, false, fun w2 v h => (Gf.sEvalGf_bad v xs x w2 h (.inl hp)).mono (fun e w' ⟨h1, h2⟩ => ⟨h1, h2 ▸ Below.refl _ _⟩), fun w2 v _ h => (Gf.evalGf_bad v xs x w2 h (.inl hp)).mono (fun e w' ⟨h1, h2⟩ => ⟨h1, h2 ▸ Below.refl _ _⟩)⟩
    | true =>
      cases he : Gf.elOk x with
      | false => exact ⟨0, false, fun w2 v h => (Gf.sEvalGf_bad v xs x w2 h (.inr he)).mono (fun e w' ⟨h1, h2⟩ => ⟨h1, h2 ▸ Below.refl _ _⟩), fun w2 v _ h => (Gf.evalGf_bad v xs x w2 h (.inr he)).mono (fun e w' ⟨h1, h2⟩ => ⟨h1, h2 ▸ Below.refl _ _⟩)⟩
      | true =>
        have hb := Gf.elOk_iff.1 he
        exact ⟨_, true, fun w2 v h => Gf.sEvalGf_good v xs x w2 h hp hb.1 hb.2, fun w2 v ht h => Gf.evalGf_good v xs x w2 ht h hp hb.1 hb.2⟩
  obtain ⟨r, ok, hs, hi⟩ := step
  have HS := hide hs
  have HI := hide hi
  clear hs hi
  refine (HS.out _ v1 O1.out.rd).mono ?_
  rintro e w2 ⟨rfl, b2⟩
  have B2 := hide (B1.out.trans (b2.mono B1.out.size))
  have R2 := hide (R1.out.below b2)
  have T2 := hide (T1.out.below b2)
  clear b2 R1 T1 B1 O1 HS
  go_wp2_with fail
  refine (toIntS_calls _ xs _ R2.out hbig).mono ?_
  rintro e w3 ⟨v3, rfl, o3, b3⟩
  have O3 := hide o3
  have B3 := hide (B2.out.trans (b3.mono B2.out.size))
  have R3 := hide (R2.out.below b3)
  have T3 := hide (T2.out.below b3)
  clear o3 b3 R2 T2 B2
  go_wp2_with fail
  refine (HI.out _ v3 T3.out O3.out.rd).mono ?_
  rintro e w4 ⟨rfl, b4⟩
  have B4 := hide (B3.out.trans (b4.mono B3.out.size))
  have R4 := hide (R3.out.below b4)
  have O4 := hide (O3.out.below b4)
  clear b4 R3 T3 B3 O3 HI
  go_wp2_with fail
  refine (toIntS_calls _ xs _ R4.out hbig).mono ?_
  rintro e w5 ⟨v5, rfl, o5, b5⟩
  have O5 := hide o5
  have O45 := hide (O4.out.below b5)
  have B5 := hide (B4.out.trans (b5.mono B4.out.size))
  clear o5 b5 R4 B4 O4
  go_wp2_with fail
  refine (eqIntS_same v3 v5 xs _ O45.out.rd O5.out.rd).mono ?_
  rintro e w6 ⟨rfl, b6⟩
  have B6 := hide (B5.out.trans (b6.mono B5.out.size))
  clear b6 B5 O45 O5
  go_wp2
  go_ret
  exact ⟨rfl, B6.out⟩
end Go.Proofs.YtoipcoidcaijjaaDoor

/-
  The model's draws of polynomials, and the laws' comparison of two lists: each draw returns lists of new memory and leaves what was there as it was. Each asks that its bytes can be read.
-/
import Derived.Test.YtoipcoidcaijjaaDoorDraw
import Derived.Test.YtoipcoidcaijjaaDoorSys
namespace Go.Proofs.YtoipcoidcaijjaaDoor
open Go.RowKit

theorem curS_lt {w : World} {g k : Nat} {cv : Value} (h : CurS w g cv k) : g < w.heap.size := by
  obtain ⟨n, s, _, hh⟩ := h.at_
  exact (Array.getElem?_eq_some_iff.1 hh).1
theorem own_keep {w w' : World} {base g : Nat} {v : Value} {xs : List Int} (h : Own w base v xs) (hg : w.grownBy w' (some g)) (hb : g < base) : Own w' base v xs := by
  refine World.ownsRow.kept h hg ?_
  cases hv : v.ownBlock with
  | none => exact .inl rfl
  | some j =>
    right
    intro e
    have := (h.lt j hv).1
    simp at e
    omega
theorem rd_one {w : World} {z : Int} : Rd (w.alloc (.cells #[.int .i64 z] 3)) (.slice (some ⟨w.heap.size, 0, none⟩) 1 1) [z] := by
  have h : Own (w.alloc (.cells #[.int .i64 z] 3)) w.heap.size (.slice (some ⟨w.heap.size, 0, none⟩) 1 1) [z] :=
    World.ownsRow_lit w #[.int .i64 z] 1 (Nat.le_refl _) (by decide) (by rfl)
  exact h.rd
/-- A cursor stays behind a step that touches none but new blocks and one row of ours. -/
theorem CurS.far {w w' : World} {g k : Nat} {cv : Value} {row : Option Nat} (h : CurS w g cv k) (hg : w.grownBy w' row) (hr : ∀ j, row = some j → j ≠ g) (hrb : ∀ w2, w'.grownBy w2 (some g) → RdB w2 cv) : CurS w' g cv k := by
  obtain ⟨n, s, hn, hh⟩ := h.at_
  refine ⟨⟨n, s, hn, ?_⟩, hrb⟩
  rw [hg.block g (curS_lt h) (fun e => hr g e.symm rfl)]
  exact hh

theorem grown_far {w w2 w3 : World} {g : Nat} {row : Option Nat} (h : w.grownBy w2 (some g)) (k : w2.grownBy w3 row) (hr : ∀ j, row = some j → w.heap.size ≤ j) : w.grownBy w3 (some g) :=
  ⟨k.os.trans h.os, k.tape.trans h.tape, k.output.trans h.output, Nat.le_trans h.size k.size, fun j hj hne => (k.block j (Nat.lt_of_lt_of_le hj h.size) (fun e => by have := hr j e.symm; omega)).trans (h.block j hj hne)⟩
theorem grown_low {w w' : World} {g : Nat} (h : w.grownBy w' (some g)) (hg : g < w.heap.size) : Below g w w' :=
  ⟨h.os, h.tape, h.output, h.size, fun k hk => h.block k (by omega) (by simp; omega)⟩

set_option maxRecDepth 100000 in
set_option maxHeartbeats 1600000 in
theorem poly_calls (g : Nat) (cv : Value) (k n : Nat) (w : World) (h : CurS w g cv k) (hk : k ≤ 100000000) (hn0 : 1 ≤ n) (hn : n ≤ 64) (hcb : ∀ w', Below g w w' → RdB w' cv) :
    Calls Tryd.prog 76 #[.pointer (some ⟨g, 0, none⟩), .int .i64 n] w fun e w' => ∃ (v : Value) (xs : List Int), e = .returned v ∧ xs.length ≤ 64 ∧ Own w' w.heap.size v xs ∧ CurS w' g cv (k + 200) ∧ w.grownBy w' (some g) := by
  have hlt := curS_lt h
  have H := hide h
  have CB := hide hcb
  clear h hcb
  go_enter Tryd.func76, Tryd.ntmps76
  go_wp2_with fail
  refine (pick_calls g cv k n _ H.out (by omega) hn0 (by omega)).mono ?_
  rintro e w1 ⟨r1, hr1, rfl, hc1, hg1⟩
  have C1 := hide hc1
  have G1 := hide hg1
  clear hc1 hg1 H
  go_wp2
  go_loopw [5, 6] (fun vp vk wr => ∃ (r : Nat) (xs : List Int), vk = .int .i64 r ∧ xs.length + r ≤ 64 ∧ Own wr w.heap.size vp xs ∧ CurS wr g cv (k + 2 + 2 * xs.length) ∧ w.grownBy wr (some g)) (fun _ vk _ => (intOf vk).toNat)
  case atStart => exact ⟨r1, [], rfl, by simp; omega, World.ownsRow_nil _ _ _ _, C1.out, G1.out⟩
  case round =>
    obtain ⟨r, xs, rfl, hlen, hown, hcur, hgr⟩ := hrel
    have O := hide hown
    have C := hide hcur
    have G := hide hgr
    by_cases h0 : 0 < r
    · have h0' : (0 : Int) < (r : Int) := by omega
      clear hown hcur hgr
      go_wp2_with fail
      refine (pick_calls g cv (k + 2 + 2 * xs.length) 256 _ C.out (by omega) (by omega) (by omega)).mono ?_
      rintro e w2 ⟨z, hz, rfl, hc2, hg2⟩
      have C2 := hide hc2
      have G2 := hide (grown_trans G.out hg2)
      have O2 := hide ((own_keep O.out hg2 hlt).alloc (.cells #[.int .i64 (z : Nat)] 3))
      clear hc2 hg2
      go_wp2_with (at_builtin; refine wpList_append_rd rfl _ _ rfl w.heap.size _ xs.length xs [((z : Nat) : Int)] rfl O2.out _ rfl rd_one (by simp; omega) (by have := G2.out.size; simp; omega) ?_; intro v' w3 hown3 hg3)
      have hg3' : w2.grownBy w3 u5.ownBlock := Gf.grownBy_trans (World.grownBy_alloc _ _ _) hg3
      have hfar : ∀ j, u5.ownBlock = some j → w.heap.size ≤ j := fun j hj => (O.out.lt j hj).1
      have G3 := hide (grown_far G2.out hg3' hfar)
      have C3 : Hid (CurS w3 g cv (k + 2 + 2 * (xs ++ [((z : Nat) : Int)]).length)) := by
        refine (CurS.far C2.out hg3' (fun j hj => by have := hfar j hj; omega) (fun w4 h4 => CB.out w4 (grown_low (grown_trans G3.out h4) hlt))).mono ?_
        simp; omega
      have O3 := hide hown3
      clear hown3 hg3 hg3' hfar
      go_wp2
      go_roundw
      case rel => exact ⟨r - 1, xs ++ [((z : Nat) : Int)], Gf.int_eq (by omega), by simp; omega, O3.out, C3.out, G3.out⟩
      case measure => simp [intOf]; omega
    · obtain rfl : r = 0 := by omega
      have hsz := hgr.size
      rcases hown.2 with ⟨hnil, hz⟩ | ⟨gp, capp, cur, hv, hbp, _⟩
      · have hx : xs = [] := List.eq_nil_of_length_eq_zero hz
        subst hx
        subst hnil
        clear hown hcur hgr
        go_wp2
        go_ret
        exact ⟨_, [], rfl, by simp, O.out, C.out.mono (by simp), G.out⟩
      · subst hv
        clear hown hcur hgr
        by_cases hx0 : xs.length = 0
        · have t1 : ¬ (0 : Int) < (xs.length : Int) := by omega
          have L : Hid (xs.length ≤ 64) := by show _ ≤ _; omega
          clear hx0
          go_wp2
          go_ret
          first | exact ⟨_, xs, rfl, L.out, O.out, C.out.mono (by have := L.out; omega), G.out⟩ | exact ⟨_, rfl, xs, L.out, O.out, C.out.mono (by have := L.out; omega), G.out⟩
        · have t1 : (0 : Int) < (xs.length : Int) := by omega
          have hcell : wr.cell? ⟨gp, xs.length - 1, none⟩ = some (.int .i64 (xs.getD (xs.length - 1) 0)) := by
            rw [World.ownsRow.cellAt O.out (xs.length - 1) (by omega)]
            simp [show xs.length - 1 < xs.length by omega]
          have hfz := World.ownsRow.frozenAt O.out (xs.length - 1)
          obtain ⟨y, hy⟩ : ∃ y, y = xs.getD (xs.length - 1) 0 := ⟨_, rfl⟩
          rw [← hy] at hcell
          clear hy
          have e1 : ((xs.length : Int) - 1).toNat = xs.length - 1 := by omega
          have e2 : (0 : Int) ≤ (xs.length : Int) - 1 := by omega
          have e3 : (xs.length : Int) - 1 < (xs.length : Int) := by omega
          have L : Hid (xs.length ≤ 64) := by show _ ≤ _; omega
          have P0 : Hid (0 < xs.length) := by show _ < _; omega
          by_cases hy0 : y = 0
          · subst hy0
            go_wp2_with fail
            refine (one_calls g cv (k + 2 + 2 * xs.length) 6 _ C.out (by omega) (by omega) (by omega)).mono ?_
            rintro e w2 ⟨bb, rfl, hc2, hg2⟩
            have C2 := hide hc2
            have G2 := hide (grown_trans G.out hg2)
            have O2 := hide (own_keep O.out hg2 hlt)
            clear hc2 hg2 hcell hfz
            cases bb with
            | true =>
              go_wp2
              go_ret
              exact ⟨_, xs, rfl, L.out, O2.out, C2.out.mono (by have := L.out; omega), G2.out⟩
            | false =>
              have hcell2 := World.ownsRow.cellAt O2.out (xs.length - 1) (by have := P0.out; omega)
              have hfz2 := World.ownsRow.frozenAt O2.out (xs.length - 1)
              obtain ⟨old, hold⟩ : ∃ old, w2.cell? ⟨gp, xs.length - 1, none⟩ = some old := by
                rw [hcell2]
                exact ⟨_, List.getElem?_eq_getElem (by have := P0.out; simp; omega)⟩
              have hst := World.ownsRow.stored O2.out (xs.length - 1) (.int .i64 1)
              have ST := hide hst
              clear hst hcell2
              have hbg : w.heap.size ≤ gp := hbp
              go_wp2
              go_ret
              refine ⟨_, xs.set (xs.length - 1) 1, rfl, by have := L.out; simp; omega, ?_, ?_, ?_⟩
              · have h := ST.out.1
                rw [← List.map_set] at h
                show World.ownsRow _ _ _ _ _ (xs.set (xs.length - 1) 1).length _
                rw [List.length_set]
                exact h
              · have G3 := grown_far G2.out ST.out.2 (fun j hj => by simp at hj; omega)
                exact (CurS.far C2.out ST.out.2 (fun j hj => by simp at hj; omega) (fun w4 h4 => CB.out w4 (grown_low (grown_trans G3 h4) hlt))).mono (by have := L.out; omega)
              · exact grown_far G2.out ST.out.2 (fun j hj => by simp at hj; omega)
          · have t2 : (y == 0) = false := by simp; exact hy0
            clear hy0
            go_wp2
            go_ret
            exact ⟨_, xs, rfl, L.out, O.out, C.out.mono (by have := L.out; omega), G.out⟩

theorem draw_low {w : World} {cv : Value} (h : RdB w cv) : ∀ w', Below w.heap.size (w.alloc (.cells #[cv, .int .i64 0, .int .u64 0] 86)) w' → RdB w' cv := fun _ hb =>
  h.below (((Below.refl _ _).alloc (Nat.le_refl _) _).trans hb)

set_option maxRecDepth 100000 in
set_option maxHeartbeats 800000 in
theorem drawDivPoly_calls (cv : Value) (w : World) (h : RdB w cv) :
    Calls Tryd.prog 19 #[cv] w fun e w' => ∃ (v u : Value) (xs ys : List Int), e = .returned (.tuple #[v, u]) ∧ Rd w' v xs ∧ Rd w' u ys ∧ Below w.heap.size w w' := by
  have C0 := hide (cur_new h)
  have LO := hide (draw_low h)
  obtain ⟨a0, cap0, zs0, rfl, _⟩ := h
  go_enter Tryd.func19, Tryd.ntmps19
  go_wp2_with fail
  refine (poly_calls w.heap.size _ 0 12 _ C0.out (by omega) (by omega) (by omega) LO.out).mono ?_
  rintro e w1 ⟨v, xs, rfl, hl1, ho1, hc1, hg1⟩
  have C1 := hide hc1
  have G1 := hide hg1
  have O1 := hide ho1
  have lt1 := curS_lt hc1
  clear hc1 hg1 ho1 C0
  go_wp2_with fail
  refine (poly_calls w.heap.size _ 200 7 _ C1.out (by omega) (by omega) (by omega) (fun w' hb => LO.out w' ((grown_low G1.out (by simp)).trans hb))).mono ?_
  rintro e w2 ⟨u, ys, rfl, hl2, ho2, hc2, hg2⟩
  have R2 : Hid (Rd w2 v xs ∧ Rd w2 u ys ∧ Below w.heap.size w w2) := ⟨(own_keep O1.out hg2 (by simp)).rd, ho2.rd, cur_below (grown_trans G1.out hg2)⟩
  clear hc2 hg2 ho2
  go_wp2
  go_ret2
  first | exact ⟨v, u, xs, ys, rfl, R2.out.1, R2.out.2.1, R2.out.2.2⟩ | exact ⟨v, u, rfl, xs, ys, R2.out.1, R2.out.2.1, R2.out.2.2⟩
end Go.Proofs.YtoipcoidcaijjaaDoor

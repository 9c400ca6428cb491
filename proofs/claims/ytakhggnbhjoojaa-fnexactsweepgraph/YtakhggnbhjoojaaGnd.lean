/-
  Counts by the program: CountsOf, with its closure, call by call. Each contract says what it asks.
-/
import Derived.Test.YtakhggnbhjoojaaGnc
namespace Go.Proofs.Ytakhggnbhjoojaa
open Go.RowKit
set_option linter.unusedVariables false

theorem grown_ref {w : World} {row : Option Nat} : w.grownBy w row := World.grownBy.refl _ _
theorem grown_tr {w w1 w2 : World} {row : Option Nat} (h : w.grownBy w1 row) (k : w1.grownBy w2 row) : w.grownBy w2 row :=
  ⟨k.os.trans h.os, k.tape.trans h.tape, k.output.trans h.output, Nat.le_trans h.size k.size, fun j hj hne => (k.block j (Nat.lt_of_lt_of_le hj h.size) hne).trans (h.block j hj hne)⟩

set_option maxRecDepth 100000 in
set_option maxHeartbeats 1600000 in
theorem count_calls (v : Value) (xs : List Int) (cs : List Int) (B g n lo K : Nat) (w : World) (hv : ∀ w', w.grownBy w' (some g) → Rd w' v xs) (hB : w.cell? ⟨B, 0, none⟩ = some (.slice (some ⟨g, 0, none⟩) n n)) (hBg : B ≠ g)
    (ho : Own w lo (.slice (some ⟨g, 0, none⟩) n n) cs) (hl : cs.length = n) (hx : ∀ i, i < xs.length → 0 ≤ xs.getD i 0 ∧ xs.getD i 0 < (n : Int)) (hbd : Bd K cs) (hK : K + xs.length ≤ 1000) :
    Calls Try.prog 83 #[v, .pointer (some ⟨B, 0, none⟩)] w fun e w' => e = .returned (.tuple #[]) ∧ Own w' lo (.slice (some ⟨g, 0, none⟩) n n) (cntL cs xs) ∧ w.grownBy w' (some g) := by
  have V := hide hv
  obtain ⟨a, cap, rfl, h1, h2⟩ := (hv w grown_ref).slc
  have hm : xs.length ≤ maxLen := by omega
  unfold maxLen at hm
  have O0 := hide ho
  have HX := hide hx
  have BD := hide hbd
  have HB := hide hB
  clear h1 h2 ho hx hbd hv hB
  go_enter Try.func83, Try.ntmps83
  go_wp2
  go_loopw [7] (fun vi wr => ∃ (j : Nat) (cj : List Int), j ≤ xs.length ∧ vi = .int .i64 j ∧ cj = cntL cs (xs.take j) ∧ Own wr lo (.slice (some ⟨g, 0, none⟩) n n) cj ∧ w.grownBy wr (some g)) (fun vi _ => xs.length - (intOf vi).toNat)
  case atStart => exact ⟨0, _, Nat.zero_le _, rfl, rfl, by simpa [cntL] using O0.out, grown_ref⟩
  case round =>
    obtain ⟨j, cj, hj, rfl, hcj, ho, hg⟩ := hrel
    have G := hide hg
    have O := hide ho
    have CJ := hide hcj
    clear ho hg hcj O0
    by_cases hlj : j < xs.length
    · obtain ⟨hb, hof, rfl, hc1⟩ := (V.out wr G.out).cellAt j hlj
      have hx := HX.out j hlj
      obtain ⟨x, hn⟩ : ∃ x : Nat, xs.getD j 0 = (x : Int) := ⟨(xs.getD j 0).toNat, by omega⟩
      rw [hn] at hc1 hx
      have hnm : x < n := by have := hx.2; omega
      have hlj' : (j : Int) < (xs.length : Int) := by omega
      have hnm' : (x : Int) < (n : Int) := by omega
      have hcl : cj.length = n := by rw [CJ.out, cntL_len, hl]
      have hbd : 0 ≤ cj.getD x 0 ∧ cj.getD x 0 ≤ 1000 := by
        have := (Bd.list (xs := xs.take j) BD.out) x (by rw [← CJ.out, hcl]; exact hnm)
        rw [← CJ.out] at this
        have h7 : (xs.take j).length ≤ xs.length := by simp; omega
        omega
      obtain ⟨d0, f0, o1, g1⟩ := bump_facts O.out hcl hnm
      have hb0 : wr.cell? ⟨B, 0, none⟩ = some (.slice (some ⟨g, 0, none⟩) n n) := G.out.cell HB.out (by simpa using hBg)
      have hst : bump cj x = cntL cs (xs.take (j + 1)) := by
        rw [cntL_succ _ _ _ hlj, hn, CJ.out]
      have HS := hide hst
      have O1 := hide o1
      have G1 := hide (grown_tr G.out g1)
      generalize cj.getD x 0 = c at *
      have hc0 := hbd.1
      have hcb := hbd.2
      clear hcl hst hbd hx o1 g1
      go_wp2
      go_roundw
      case rel => exact ⟨j + 1, bump cj x, by omega, by go_num, HS.out, O1.out, G1.out⟩
      case measure => simp [intOf]; omega
    · obtain rfl : j = xs.length := by omega
      have h1 := O.out
      rw [CJ.out, List.take_length] at h1
      have O2 := hide h1
      clear h1
      go_wp2
      exact bodyPost_end (results_none rfl _ _ _) rfl ⟨rfl, O2.out, G.out⟩

set_option maxRecDepth 100000 in
set_option maxHeartbeats 3200000 in
theorem countsOf_calls (v u : Value) (m : List Nd) (rs : List Int) (w : World) (h : RdN w v m) (hu : Rd w u rs) :
    Calls Try.prog 34 #[v, u] w fun e w' => ∃ c, e = .returned (.tuple #[c, .bool (decide (okG m rs))]) ∧ Own w' w.heap.size c (ctR m rs) ∧ Below w.heap.size w w' := by
  have R := hide h
  have V := hide hu
  obtain ⟨a, cap, rfl, h1, h2, h3⟩ := h
  obtain ⟨ra, rc, rfl, hr1, hr2⟩ := hu.slc
  clear h1 h2 h3 hu hr1 hr2
  by_cases hn : m.length ≤ 14 ∧ okNs m
  case neg =>
    have E : Hid (decide (okG m rs) = false) := decide_eq_false (fun h => hn h.1)
    have EN : Hid (decide (m.length ≤ 14 ∧ okNs m) = false) := decide_eq_false hn
    have CT : Hid (ctR m rs = []) := if_neg (fun h => hn h.1)
    rw [E.out, CT.out]
    clear hn
    go_enter Try.func34, Try.ntmps34
    go_wp2_with fail
    refine (areNodes_calls _ m _ R.out).mono ?_
    rw [EN.out]
    rintro e w1 ⟨rfl, b1⟩
    have B1 := hide b1
    clear b1
    go_wp2
    go_ret2
    exact ⟨_, rfl, World.ownsRow_nil _ _ _ _, B1.out⟩
  have EN : Hid (decide (m.length ≤ 14 ∧ okNs m) = true) := decide_eq_true hn
  by_cases hr : rs.length ≤ 6 ∧ allH m m.length rs
  case neg =>
    have E : Hid (decide (okG m rs) = false) := decide_eq_false (fun h => hr h.2)
    have ER : Hid (decide (rs.length ≤ 6 ∧ allH m m.length rs) = false) := decide_eq_false hr
    have CT : Hid (ctR m rs = []) := if_neg (fun h => hr h.2)
    rw [E.out, CT.out]
    clear hn hr
    go_enter Try.func34, Try.ntmps34
    go_wp2_with fail
    refine (areNodes_calls _ m _ R.out).mono ?_
    rw [EN.out]
    rintro e w1 ⟨rfl, b1⟩
    have B1 := hide b1
    clear b1
    go_wp2_with fail
    refine (areRoots_calls _ _ m rs _ (R.out.below B1.out) (V.out.below B1.out)).mono ?_
    rw [ER.out]
    rintro e w2 ⟨rfl, b2⟩
    have B2 := hide (B1.out.trans (b2.mono B1.out.size))
    clear b2
    go_wp2
    go_ret2
    exact ⟨_, rfl, World.ownsRow_nil _ _ _ _, B2.out⟩
  have ER : Hid (decide (rs.length ≤ 6 ∧ allH m m.length rs) = true) := decide_eq_true hr
  have E : Hid (decide (okG m rs) = true) := decide_eq_true ⟨hn, hr⟩
  have CT : Hid (ctR m rs = cntG m rs) := if_pos ⟨hn, hr⟩
  have OK : Hid (okG m rs) := ⟨hn, hr⟩
  have h14 := hn.1
  have h6 := hr.1
  rw [E.out, CT.out]
  clear hn hr
  go_enter Try.func34, Try.ntmps34
  go_wp2_with fail
  refine (areNodes_calls _ m _ R.out).mono ?_
  rw [EN.out]
  rintro e w1 ⟨rfl, b1⟩
  have B1 := hide b1
  clear b1
  go_wp2_with fail
  refine (areRoots_calls _ _ m rs _ (R.out.below B1.out) (V.out.below B1.out)).mono ?_
  rw [ER.out]
  rintro e w2 ⟨rfl, b2⟩
  have B2 := hide (B1.out.trans (b2.mono B1.out.size))
  clear b2
  go_wp2_with (at_make; refine wpList_make_ints rfl _ _ rfl w2.heap.size _ _ m.length rfl rfl (by omega) (by omega) (by omega) (Nat.le_refl _) ?_)
  intro w3 ho0 hg0
  obtain ⟨g, hg⟩ : ∃ g, g = w2.heap.size := ⟨_, rfl⟩
  rw [← hg] at ho0
  have hgw : w.heap.size ≤ g := by rw [hg]; exact B2.out.size
  have hg3 : g < w3.heap.size := (World.ownsRow.lt ho0 g rfl).2
  have b3 : Below w.heap.size w w3 := B2.out.grown hg0 B2.out.size (fun k h => by cases h)
  obtain ⟨b, hb⟩ : ∃ b, b = w3.heap.size := ⟨_, rfl⟩
  obtain ⟨w4, hw4⟩ : ∃ w4, w4 = w3.alloc (.cells #[.slice (some ⟨g, 0, none⟩) m.length m.length] 23) := ⟨_, rfl⟩
  have W4 : Hid (w3.alloc (.cells #[.slice (some ⟨g, 0, none⟩) m.length m.length] 23) = w4) := hw4.symm
  have b4 : Below w3.heap.size w3 w4 := by rw [hw4]; exact below_box _ _
  have x4 : BoxAt w4 b #[.slice (some ⟨g, 0, none⟩) m.length m.length] 23 := by rw [hw4, hb]; exact BoxAt.new _ _ _
  have hbg : b ≠ g := by omega
  have hbw : w.heap.size ≤ b := by rw [hb]; exact b3.size
  have O4 := hide (Own.below ho0 b4)
  have B4 := hide (b3.trans (b4.mono b3.size))
  have X4 := hide x4
  have HGW := hide hgw
  have HBB := hide hb
  have HGG := hide hg
  have KEEP : Hid (∀ w', Below w.heap.size w w' → ∀ x y, Below w.heap.size w w' ∧ w'.grownBy y (some g) → x = y → Below w.heap.size w y) := by
    intro w' hb x y h _
    exact h.1.grown h.2 h.1.size (fun k hk => by cases hk; exact HGW.out)
  clear ho0 hg0 b3 b4 x4 hw4 hb hg hgw
  go_wp2_with fail
  rw [← HGG.out, W4.out, ← HBB.out]
  refine (count_calls _ rs (List.replicate m.length 0) b g m.length g 0 _ (fun w' hg => V.out.below (KEEP.out _ B4.out w' w' ⟨B4.out, hg⟩ rfl)) (X4.out.cell 0) hbg O4.out (by simp) (fun i hi => ⟨(OK.out.2.2 i hi).1, (OK.out.2.2 i hi).2.1⟩) (Bd.zero _) (by omega)).mono ?_
  rintro e w5 ⟨rfl, o5, g5⟩
  have B5 := hide (KEEP.out _ B4.out w5 w5 ⟨B4.out, g5⟩ rfl)
  have X5 : Hid (w5.cell? ⟨b, 0, none⟩ = some (.slice (some ⟨g, 0, none⟩) m.length m.length)) := g5.cell (X4.out.cell 0) (by simpa using hbg)
  obtain ⟨cs, hcs⟩ : ∃ cs, cs = cntL (List.replicate m.length 0) rs := ⟨_, rfl⟩
  rw [← hcs] at o5
  have O5 := hide o5
  have C0 : Hid (cntG m rs = cntN cs m) := by
    show _ = _
    rw [hcs]
    rfl
  have BD : Hid (Bd 6 cs) := by
    have := Bd.list (xs := rs) (Bd.zero m.length)
    rw [hcs]
    exact this.mono (by omega)
  have L0 : Hid (cs.length = m.length) := by show _ = _; rw [hcs]; simp [cntL_len]
  clear o5 g5 hcs X4 O4 B4
  go_wp2
  go_loopw [28] (fun vi wr => ∃ (k : Nat) (ck : List Int), k ≤ m.length ∧ vi = .int .i64 k ∧ ck = cntN cs (m.take k) ∧ Own wr g (.slice (some ⟨g, 0, none⟩) m.length m.length) ck ∧ Below w.heap.size w wr ∧ wr.cell? ⟨b, 0, none⟩ = some (.slice (some ⟨g, 0, none⟩) m.length m.length)) (fun vi _ => m.length - (intOf vi).toNat)
  case atStart => exact ⟨0, _, Nat.zero_le _, rfl, rfl, by simpa [cntN] using O5.out, B5.out, X5.out⟩
  case round =>
    obtain ⟨k, ck, hk, rfl, hck, ho, hb, hcl⟩ := hrel
    have O2 := hide ho
    have B2 := hide hb
    have CK := hide hck
    have CL := hide hcl
    clear ho hb hck hcl B5 X5 O5
    by_cases hlt : k < m.length
    · obtain ⟨b', off, u0, ks, z, rfl, hx, hu, c0, c1⟩ := R.out.at k hlt
      have HX := hide hx
      have U := hide hu
      have c0' := cell_below c0 B2.out
      have c1' := cell_below c1 B2.out
      obtain ⟨ua, uc, rfl, hul, hum⟩ := U.out.slc
      obtain ⟨w6, hw6⟩ : ∃ w1, w1 = wr.alloc (.cells #[.slice ua ks.length uc, .bool z] 84) := ⟨_, rfl⟩
      have b1 : Below wr.heap.size wr w6 := by rw [hw6]; exact below_box _ _
      have BB := hide (B2.out.trans (b1.mono B2.out.size))
      have W6 := hide hw6
      have hlt' : (k : Int) < (m.length : Int) := by omega
      have hks : ks.length ≤ 6 := by
        have := (OK.out.1.2 k hlt).2.1
        rw [hx] at this
        exact this
      have OO := hide (Own.below O2.out b1)
      have XX := hide (cell_below CL.out b1)
      have BK : Hid (Bd 90 ck) := by
        have h1 := Bd.nodes (m := m.take k) BD.out
        have h2 := totN_take_six m OK.out.1.2 k hk
        rw [CK.out]
        exact h1.mono (by omega)
      have LK : Hid (ck.length = m.length) := by show _ = _; rw [CK.out, cntN_len, L0.out]
      have CN : Hid (cntL ck ks = cntN cs (m.take (k + 1))) := by show _ = _; rw [cntN_succ _ _ _ hlt, hx, CK.out]
      have HK : Hid (∀ i, i < ks.length → 0 ≤ ks.getD i 0 ∧ ks.getD i 0 < (m.length : Int)) := by
        intro i hi
        have := (OK.out.1.2 k hlt).1 i (by rw [HX.out]; exact hi)
        rw [HX.out] at this
        exact ⟨this.1, by have := this.2.1; simp only at this; omega⟩
      clear hx hu b1 hw6 hul hum O2 c0 c1 CK
      go_wp2_with fail
      rw [← W6.out]
      refine (count_calls _ ks ck b g m.length g 90 _ (fun w' hg => U.out.below (KEEP.out _ BB.out w' w' ⟨BB.out, hg⟩ rfl)) XX.out hbg OO.out LK.out HK.out BK.out (by omega)).mono ?_
      rintro e w7 ⟨rfl, o7, g7⟩
      have B7 := hide (KEEP.out _ BB.out w7 w7 ⟨BB.out, g7⟩ rfl)
      have X7 : Hid (w7.cell? ⟨b, 0, none⟩ = some (.slice (some ⟨g, 0, none⟩) m.length m.length)) := g7.cell XX.out (by simpa using hbg)
      have O7 := hide o7
      clear o7 g7
      go_wp2
      go_roundw
      case rel => exact ⟨k + 1, _, by omega, by go_num, CN.out, O7.out, B7.out, X7.out⟩
      case measure => simp [intOf]; omega
    · obtain rfl : k = m.length := by omega
      have cl := CL.out
      have h1 := O2.out
      rw [CK.out, List.take_length, ← C0.out] at h1
      have O8 := hide (Own.mono h1 HGW.out)
      clear h1
      go_wp2
      go_ret2
      exact ⟨_, rfl, O8.out, B2.out⟩
end Go.Proofs.Ytakhggnbhjoojaa

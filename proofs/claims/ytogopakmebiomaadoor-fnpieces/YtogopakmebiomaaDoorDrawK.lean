/-
  Pieces of a code drawn, with what was lost: the model's draw, call by call. Each contract says what it asks.
-/
import Derived.Test.YtogopakmebiomaaDoorDrawH
import Derived.Test.YtogopakmebiomaaDoorEncP
namespace Go.Proofs.YtogopakmebiomaaDoor
open Go.RowKit

theorem grown_below {w w' : World} (hb : Below w.heap.size w w') (row : Option Nat) : w.grownBy w' row := ⟨hb.os, hb.tape, hb.output, hb.size, fun k hk _ => hb.block k hk⟩
theorem CurS.keptK {w w' : World} {g k : Nat} {cv : Value} (h : CurS w g cv k) (hb : Below w.heap.size w w') (hrb : ∀ w2, w'.grownBy w2 (some g) → RdB w2 cv) : CurS w' g cv k :=
  CurS.far h (grown_below hb none) (fun j hj => by cases hj) hrb
/-- What is drawn of a code: pieces of the call's own, and a short list. -/
structure Cod (w w' : World) (g : Nat) (cv : Value) (k : Nat) (vl vx : Value) (d q : Nat) : Prop where
  d1 : 1 ≤ d
  d5 : d ≤ 5
  q1 : 1 ≤ q
  q4 : q ≤ 4
  mat : ∃ m L, Mat w' w.heap.size w'.heap.size vl m ∧ m.length = d + q ∧ L ≤ 33 ∧ ∀ r ∈ m, r.length = L
  lost : ∃ xs, Rd w' vx xs ∧ (xs.length ≤ 6 ∧ ∀ y ∈ xs, 0 ≤ y) ∧ ∀ b, vx.ownBlock = some b → w.heap.size ≤ b
  cur : CurS w' g cv k
  grown : w.grownBy w' (some g)
theorem encR_length {m : List (List Int)} {q : Nat} (h : (encR m q).2 = true) : (encR m q).1.length = m.length + q := by
  unfold encR at h ⊢
  split at h
  next hok => rw [if_pos hok]; show (mulM (codeM m.length (q : Int).toNat) m).length = _; rw [Int.toNat_natCast, mulM_length, codeM_length]
  next => cases h
theorem encR_rows {m : List (List Int)} {q : Nat} (h : (encR m q).2 = true) : ∃ L, L ≤ 33 ∧ ∀ r ∈ (encR m q).1, r.length = L := by
  unfold encR at h ⊢
  split at h
  next hok =>
    rw [if_pos hok]
    simp only [encOk, Bool.and_eq_true] at hok
    obtain ⟨h1, h2, h3, h4⟩ := codeOk_facts hok.1
    have := piecesOk_at hok.2 0 (by omega)
    refine ⟨(m.getD 0 []).length, by omega, fun r hr => ?_⟩
    simp only [mulM, List.mem_map] at hr
    obtain ⟨x, _, rfl⟩ := hr
    rw [Gf.ci_length, mulRow_length]
  next => cases h

set_option maxRecDepth 100000 in
set_option maxHeartbeats 6400000 in
theorem coded_calls (g : Nat) (cv : Value) (k : Nat) (w : World) (h : CurS w g cv k) (hk : k ≤ 900000) (hcb : ∀ w', Below g w w' → RdB w' cv) :
    Calls Tryd.prog 112 #[.pointer (some ⟨g, 0, none⟩)] w fun e w' => ∃ (d q : Nat) (vl vx : Value), e = .returned (.tuple #[.int .i64 d, .int .i64 q, vl, vx]) ∧ Cod w w' g cv (k + 5000) vl vx d q := by
  have lt0 := curS_lt h
  have H := hide h
  have CB := hide hcb
  clear h hcb
  go_enter Tryd.func112, Tryd.ntmps112
  go_wp2_with fail
  refine (pick_calls g _ k 5 _ H.out (by omega) (by omega) (by omega)).mono ?_
  rintro e w1 ⟨p1, hp1, rfl, hc1, hg1⟩
  have C1 := hide hc1
  have G1 := hide hg1
  clear hc1 hg1 H
  go_wp2_with fail
  refine (pick_calls g _ (k + 2) 4 _ C1.out (by omega) (by omega) (by omega)).mono ?_
  rintro e w2 ⟨p2, hp2, rfl, hc2, hg2⟩
  have C2 := hide hc2
  have G2 := hide (grown_trans G1.out hg2)
  clear hc2 hg2 C1
  go_wp2_with fail
  obtain ⟨d, hd⟩ : ∃ d : Nat, d = 1 + p1 := ⟨_, rfl⟩
  obtain ⟨q, hq⟩ : ∃ q : Nat, q = 1 + p2 := ⟨_, rfl⟩
  have ed : (1 : Int) + (p1 : Int) = (d : Int) := by omega
  have eq2 : (1 : Int) + (p2 : Int) = (q : Int) := by omega
  have d1 : 1 ≤ d := by omega
  have d5 : d ≤ 5 := by omega
  have q1 : 1 ≤ q := by omega
  have q4 : q ≤ 4 := by omega
  rw [ed, eq2]
  clear ed eq2 hd hq hp1 hp2
  refine (pieces_calls g _ (k + 4) d _ C2.out (by omega) (by omega) (fun w' hb => CB.out w' ((grown_low G2.out lt0).trans hb))).mono ?_
  rintro e w3 ⟨v3, m3, L3, rfl, hM3, hm3, _, hc3, hg3⟩
  have C3 := hide hc3
  have G3 := hide (grown_trans G2.out hg3)
  have R3 := hide hM3.rd
  have M3L := hide hm3
  clear hc3 hg3 hM3 hm3 C2
  go_wp2_with fail
  refine (sEncodePieces_calls _ m3 q _ R3.out).mono ?_
  obtain ⟨ok, hok⟩ : ∃ b, b = (encR m3 q).2 := ⟨_, rfl⟩
  rw [← hok]
  rintro e w4 ⟨v4, rfl, hM4, hb4⟩
  have G4 := hide (grown_trans G3.out (grown_below hb4 (some g)))
  have C4 := hide (CurS.keptK C3.out hb4 (fun w' h' => CB.out w' (grown_low (grown_trans G4.out h') lt0)))
  have s3 := G3.out.size
  have s4 := hb4.size
  have XX : Hid (ok = true → (encR m3 q).1.length = d + q ∧ ∃ L, L ≤ 33 ∧ ∀ r ∈ (encR m3 q).1, r.length = L) := fun e => by
    have := encR_length (m := m3) (q := q) (by rw [← hok, e])
    exact ⟨by rw [this, M3L.out], encR_rows (by rw [← hok, e])⟩
  have M4 := hide hM4
  clear hM4 hb4 hok C3
  cases ok with
  | true =>
    obtain ⟨m, hm⟩ : ∃ m, m = (encR m3 q).1 := ⟨_, rfl⟩
    have ML : Hid (m.length = d + q) := by rw [hm]; exact (XX.out rfl).1
    obtain ⟨L, hLL⟩ : ∃ L, L ≤ 33 ∧ ∀ r ∈ m, r.length = L := by rw [hm]; exact (XX.out rfl).2
    have LL := hide hLL
    clear hLL
    obtain ⟨vs, hMV⟩ : Mat w4 w.heap.size w4.heap.size v4 m := by rw [hm]; exact M4.out.wider s3 (Nat.le_refl _)
    have MV := hide hMV
    obtain ⟨wE, hwE⟩ : ∃ x, x = w4 := ⟨_, rfl⟩
    have CE : Hid (CurS wE g cv (k + 4500)) := by rw [hwE]; exact C4.out.mono (by omega)
    have GE : Hid (w.grownBy wE (some g)) := by rw [hwE]; exact G4.out
    have ME : Hid (MatV wE w.heap.size wE.heap.size v4 vs m) := by rw [hwE]; exact MV.out
    have sE : w.heap.size ≤ wE.heap.size := GE.out.size
    subst hwE
    clear hm hMV MV M4 XX C4 G4
    go_wp2_with fail
    obtain ⟨Q1, hQ1⟩ : ∃ N : Nat, N = q + 1 := ⟨_, rfl⟩
    rw [show (q : Int) + 1 = (Q1 : Int) by omega]
    refine (pick_calls g _ (k + 4500) Q1 _ CE.out (by omega) (by omega) (by omega)).mono ?_
    rintro e w6 ⟨n6, hn6, rfl, hc6, hg6⟩
    have C6 := hide hc6
    have G6 := hide (grown_trans GE.out hg6)
    have M6 := hide (ME.out.chg (grown_chg hg6) (.inr (by omega)))
    have s6 := hg6.size
    have n5 : n6 ≤ 4 := by omega
    clear hc6 hg6 hQ1 hn6
    go_wp2
    go_loopw [10, 11] (fun vx vn wr => ∃ (r : Nat), vn = .int .i64 r ∧ r ≤ 4 ∧ (∃ xs, Rd wr vx xs ∧ (xs.length + r ≤ 4 ∧ ∀ y ∈ xs, 0 ≤ y) ∧ ∀ b, vx.ownBlock = some b → w.heap.size ≤ b) ∧ MatV wr w.heap.size wE.heap.size v4 vs m ∧ CurS wr g cv (k + 4600 - 2 * r) ∧ w.grownBy wr (some g) ∧ wE.heap.size ≤ wr.heap.size) (fun _ vn _ => (intOf vn).toNat)
    case atStart => exact ⟨n6, rfl, n5, ⟨[], ⟨none, 0, rfl, Nat.le_refl _, ⟨Nat.zero_le _, fun _ => rfl⟩, .inl rfl⟩, ⟨by simp; omega, fun y hy => nomatch hy⟩, fun b hb => by cases hb⟩, M6.out, C6.out.mono (by omega), G6.out, s6⟩
    case round =>
      obtain ⟨r, rfl, hr4, ⟨xs, hx, ⟨hxl, hxn⟩, hxb⟩, hM, hc, hg, hs⟩ := hrel
      have XN := hide hxn
      clear hxn
      have RX := hide hx
      have XB := hide hxb
      clear hxb
      have M := hide hM
      have C := hide hc
      have G := hide hg
      clear hx hM hc hg
      by_cases hr : 0 < r
      · have hr' : (0 : Int) < (r : Int) := by omega
        go_wp2_with fail
        obtain ⟨N, hN⟩ : ∃ N : Nat, N = d + q := ⟨_, rfl⟩
        rw [show (d : Int) + (q : Int) = (N : Int) by omega]
        refine (pick_calls g _ (k + 4600 - 2 * r) N _ C.out (by omega) (by omega) (by omega)).mono ?_
        rintro e w7 ⟨i7, hi7, rfl, hc7, hg7⟩
        have C7 := hide hc7
        have G7 := hide (grown_trans G.out hg7)
        have M7 := hide (M.out.chg (grown_chg hg7) (.inr (by omega)))
        have RX7 := hide (rd_far RX.out hg7 (fun b hb => by have := XB.out b hb; omega))
        have s7 := hg7.size
        have sw7 := G7.out.size
        clear hc7 hg7 hN hi7
        go_wp2_with fail
        refine (l1Put_calls _ xs (i7 : Int) _ RX7.out (by omega) (by omega) XN.out w.heap.size sw7 XB.out).mono ?_
        rintro e w8 ⟨v8, rfl, ⟨ys, hy1, ⟨hy2, hyn⟩, hy3⟩, hb8⟩
        have YN := hide hyn
        clear hyn
        have G8 := hide (grown_trans G7.out (grown_below hb8 (some g)))
        have C8 := hide (CurS.keptK C7.out hb8 (fun w' h' => CB.out w' (grown_low (grown_trans G8.out h') lt0)))
        have M8 := hide (M7.out.below hb8)
        have RY := hide hy1
        have YB := hide hy3
        have s8 := hb8.size
        clear hy1 hy3 hb8
        go_wp2
        go_roundw
        case rel => exact ⟨r - 1, Gf.int_eq (by omega), by omega, ⟨ys, RY.out, ⟨by omega, YN.out⟩, YB.out⟩, M8.out, C8.out.mono (by omega), G8.out, by omega⟩
        case measure => simp [intOf]; omega
      · obtain rfl : r = 0 := by omega
        have sw := G.out.size
        go_wp2_with fail
        refine (one_calls g _ (k + 4600) 12 _ C.out (by omega) (by omega) (by omega)).mono ?_
        rintro e w9 ⟨b9, rfl, hc9, hg9⟩
        have C9 := hide hc9
        have G9 := hide (grown_trans G.out hg9)
        have M9 := hide (M.out.chg (grown_chg hg9) (.inr (by omega)))
        have RX9 := hide (rd_far RX.out hg9 (fun b hb => by have := XB.out b hb; omega))
        have s9 := hg9.size
        clear hc9 hg9
        cases b9 with
        | false =>
          go_wp2
          try simp only [Exit.inBlock, Exit.then]
          refine bodyPost_ret (results_four rfl _ _ _) rfl ?_
          exact ⟨d, q, _, _, rfl, d1, d5, q1, q4, ⟨m, L, ⟨_, M9.out.wider (Nat.le_refl _) (by omega)⟩, ML.out, LL.out⟩, ⟨xs, RX9.out, ⟨by omega, XN.out⟩, XB.out⟩, C9.out.mono (by omega), G9.out⟩
        | true =>
          go_wp2_with fail
          refine (pick_calls g _ (k + 4602) 12 _ C9.out (by omega) (by omega) (by omega)).mono ?_
          rintro e w10 ⟨i10, hi10, rfl, hc10, hg10⟩
          have C10 := hide hc10
          have G10 := hide (grown_trans G9.out hg10)
          have M10 := hide (M9.out.chg (grown_chg hg10) (.inr (by omega)))
          have RX10 := hide (rd_far RX9.out hg10 (fun b hb => by have := XB.out b hb; omega))
          have s10 := hg10.size
          have sw10 := G10.out.size
          clear hc10 hg10
          go_wp2_with fail
          refine (l1Put_calls _ xs (i10 : Int) _ RX10.out (by omega) (by omega) XN.out w.heap.size sw10 XB.out).mono ?_
          rintro e w11 ⟨v11, rfl, ⟨ys, hy1, ⟨hy2, hyn⟩, hy3⟩, hb11⟩
          have YN := hide hyn
          clear hyn
          have G11 := hide (grown_trans G10.out (grown_below hb11 (some g)))
          have C11 := hide (CurS.keptK C10.out hb11 (fun w' h' => CB.out w' (grown_low (grown_trans G11.out h') lt0)))
          have M11 := hide (M10.out.below hb11)
          have RY := hide hy1
          have YB := hide hy3
          have s11 := hb11.size
          clear hy1 hy3 hb11
          go_wp2
          try simp only [Exit.inBlock, Exit.then]
          refine bodyPost_ret (results_four rfl _ _ _) rfl ?_
          exact ⟨d, q, _, _, rfl, d1, d5, q1, q4, ⟨m, L, ⟨_, M11.out.wider (Nat.le_refl _) (by omega)⟩, ML.out, LL.out⟩, ⟨ys, RY.out, ⟨by omega, YN.out⟩, YB.out⟩, C11.out.mono (by omega), G11.out⟩
  | false =>
    clear XX M4
    go_wp2_with fail
    obtain ⟨N, hN⟩ : ∃ N : Nat, N = d + q := ⟨_, rfl⟩
    rw [show (d : Int) + (q : Int) = (N : Int) by omega]
    refine (pieces_calls g _ (k + 2004) N _ C4.out (by omega) (by omega) (fun w' hb => CB.out w' ((grown_low G4.out lt0).trans hb))).mono ?_
    rintro e w5 ⟨v4, m, L, rfl, hM5, hm5, hLL, hc5, hg5⟩
    have LL := hide hLL
    clear hLL
    obtain ⟨vs, hMV⟩ : Mat w5 w.heap.size w5.heap.size v4 m := hM5.wider (by omega) (Nat.le_refl _)
    obtain ⟨wE, hwE⟩ : ∃ x, x = w5 := ⟨_, rfl⟩
    have ML : Hid (m.length = d + q) := by show m.length = d + q; omega
    have CE : Hid (CurS wE g cv (k + 4500)) := by rw [hwE]; exact hc5.mono (by omega)
    have GE : Hid (w.grownBy wE (some g)) := by rw [hwE]; exact grown_trans G4.out hg5
    have ME : Hid (MatV wE w.heap.size wE.heap.size v4 vs m) := by rw [hwE]; exact hMV
    have sE : w.heap.size ≤ wE.heap.size := GE.out.size
    subst hwE
    clear hM5 hm5 hc5 hg5 hMV hN C4 G4
    go_wp2_with fail
    obtain ⟨Q1, hQ1⟩ : ∃ N : Nat, N = q + 1 := ⟨_, rfl⟩
    rw [show (q : Int) + 1 = (Q1 : Int) by omega]
    refine (pick_calls g _ (k + 4500) Q1 _ CE.out (by omega) (by omega) (by omega)).mono ?_
    rintro e w6 ⟨n6, hn6, rfl, hc6, hg6⟩
    have C6 := hide hc6
    have G6 := hide (grown_trans GE.out hg6)
    have M6 := hide (ME.out.chg (grown_chg hg6) (.inr (by omega)))
    have s6 := hg6.size
    have n5 : n6 ≤ 4 := by omega
    clear hc6 hg6 hQ1 hn6
    go_wp2
    go_loopw [10, 11] (fun vx vn wr => ∃ (r : Nat), vn = .int .i64 r ∧ r ≤ 4 ∧ (∃ xs, Rd wr vx xs ∧ (xs.length + r ≤ 4 ∧ ∀ y ∈ xs, 0 ≤ y) ∧ ∀ b, vx.ownBlock = some b → w.heap.size ≤ b) ∧ MatV wr w.heap.size wE.heap.size v4 vs m ∧ CurS wr g cv (k + 4600 - 2 * r) ∧ w.grownBy wr (some g) ∧ wE.heap.size ≤ wr.heap.size) (fun _ vn _ => (intOf vn).toNat)
    case atStart => exact ⟨n6, rfl, n5, ⟨[], ⟨none, 0, rfl, Nat.le_refl _, ⟨Nat.zero_le _, fun _ => rfl⟩, .inl rfl⟩, ⟨by simp; omega, fun y hy => nomatch hy⟩, fun b hb => by cases hb⟩, M6.out, C6.out.mono (by omega), G6.out, s6⟩
    case round =>
      obtain ⟨r, rfl, hr4, ⟨xs, hx, ⟨hxl, hxn⟩, hxb⟩, hM, hc, hg, hs⟩ := hrel
      have XN := hide hxn
      clear hxn
      have RX := hide hx
      have XB := hide hxb
      clear hxb
      have M := hide hM
      have C := hide hc
      have G := hide hg
      clear hx hM hc hg
      by_cases hr : 0 < r
      · have hr' : (0 : Int) < (r : Int) := by omega
        go_wp2_with fail
        obtain ⟨N, hN⟩ : ∃ N : Nat, N = d + q := ⟨_, rfl⟩
        rw [show (d : Int) + (q : Int) = (N : Int) by omega]
        refine (pick_calls g _ (k + 4600 - 2 * r) N _ C.out (by omega) (by omega) (by omega)).mono ?_
        rintro e w7 ⟨i7, hi7, rfl, hc7, hg7⟩
        have C7 := hide hc7
        have G7 := hide (grown_trans G.out hg7)
        have M7 := hide (M.out.chg (grown_chg hg7) (.inr (by omega)))
        have RX7 := hide (rd_far RX.out hg7 (fun b hb => by have := XB.out b hb; omega))
        have s7 := hg7.size
        have sw7 := G7.out.size
        clear hc7 hg7 hN hi7
        go_wp2_with fail
        refine (l1Put_calls _ xs (i7 : Int) _ RX7.out (by omega) (by omega) XN.out w.heap.size sw7 XB.out).mono ?_
        rintro e w8 ⟨v8, rfl, ⟨ys, hy1, ⟨hy2, hyn⟩, hy3⟩, hb8⟩
        have YN := hide hyn
        clear hyn
        have G8 := hide (grown_trans G7.out (grown_below hb8 (some g)))
        have C8 := hide (CurS.keptK C7.out hb8 (fun w' h' => CB.out w' (grown_low (grown_trans G8.out h') lt0)))
        have M8 := hide (M7.out.below hb8)
        have RY := hide hy1
        have YB := hide hy3
        have s8 := hb8.size
        clear hy1 hy3 hb8
        go_wp2
        go_roundw
        case rel => exact ⟨r - 1, Gf.int_eq (by omega), by omega, ⟨ys, RY.out, ⟨by omega, YN.out⟩, YB.out⟩, M8.out, C8.out.mono (by omega), G8.out, by omega⟩
        case measure => simp [intOf]; omega
      · obtain rfl : r = 0 := by omega
        have sw := G.out.size
        go_wp2_with fail
        refine (one_calls g _ (k + 4600) 12 _ C.out (by omega) (by omega) (by omega)).mono ?_
        rintro e w9 ⟨b9, rfl, hc9, hg9⟩
        have C9 := hide hc9
        have G9 := hide (grown_trans G.out hg9)
        have M9 := hide (M.out.chg (grown_chg hg9) (.inr (by omega)))
        have RX9 := hide (rd_far RX.out hg9 (fun b hb => by have := XB.out b hb; omega))
        have s9 := hg9.size
        clear hc9 hg9
        cases b9 with
        | false =>
          go_wp2
          try simp only [Exit.inBlock, Exit.then]
          refine bodyPost_ret (results_four rfl _ _ _) rfl ?_
          exact ⟨d, q, _, _, rfl, d1, d5, q1, q4, ⟨m, L, ⟨_, M9.out.wider (Nat.le_refl _) (by omega)⟩, ML.out, LL.out⟩, ⟨xs, RX9.out, ⟨by omega, XN.out⟩, XB.out⟩, C9.out.mono (by omega), G9.out⟩
        | true =>
          go_wp2_with fail
          refine (pick_calls g _ (k + 4602) 12 _ C9.out (by omega) (by omega) (by omega)).mono ?_
          rintro e w10 ⟨i10, hi10, rfl, hc10, hg10⟩
          have C10 := hide hc10
          have G10 := hide (grown_trans G9.out hg10)
          have M10 := hide (M9.out.chg (grown_chg hg10) (.inr (by omega)))
          have RX10 := hide (rd_far RX9.out hg10 (fun b hb => by have := XB.out b hb; omega))
          have s10 := hg10.size
          have sw10 := G10.out.size
          clear hc10 hg10
          go_wp2_with fail
          refine (l1Put_calls _ xs (i10 : Int) _ RX10.out (by omega) (by omega) XN.out w.heap.size sw10 XB.out).mono ?_
          rintro e w11 ⟨v11, rfl, ⟨ys, hy1, ⟨hy2, hyn⟩, hy3⟩, hb11⟩
          have YN := hide hyn
          clear hyn
          have G11 := hide (grown_trans G10.out (grown_below hb11 (some g)))
          have C11 := hide (CurS.keptK C10.out hb11 (fun w' h' => CB.out w' (grown_low (grown_trans G11.out h') lt0)))
          have M11 := hide (M10.out.below hb11)
          have RY := hide hy1
          have YB := hide hy3
          have s11 := hb11.size
          clear hy1 hy3 hb11
          go_wp2
          try simp only [Exit.inBlock, Exit.then]
          refine bodyPost_ret (results_four rfl _ _ _) rfl ?_
          exact ⟨d, q, _, _, rfl, d1, d5, q1, q4, ⟨m, L, ⟨_, M11.out.wider (Nat.le_refl _) (by omega)⟩, ML.out, LL.out⟩, ⟨ys, RY.out, ⟨by omega, YN.out⟩, YB.out⟩, C11.out.mono (by omega), G11.out⟩
end Go.Proofs.YtogopakmebiomaaDoor

/-
  Pieces of a code drawn, with what was lost: the model's draw, call by call. Each contract says what it asks. Pieces of a code drawn, with what was lost, and that they are lists of elements: the model's draw, call by call. Each contract says what it asks. What the law of pieces draws: losses, and a piece to be put anew. Each contract says what it asks. Two lists of pieces drawn, the second one with some first numbers turned. Each contract says what it asks. Pieces of a code drawn, now and then with one number turned. Each contract says what it asks. What the law of erasure draws: pieces with what was lost spoilt, pieces to be coded, two numbers. Each contract says what it asks. The law's own comparing of lists: two that are alike. Each contract says what it asks.
-/
import Derived.Test.YtcmohfckhikejaaDoorErasureB9
import Derived.Test.YtcmohfckhikejaaDoorErasureB4
import Derived.Test.YtcmohfckhikejaaDoorErasureB6
import Derived.Test.YtcmohfckhikejaaDoorErasureB5
import Derived.Test.YtcmohfckhikejaaDoorErasureB3
namespace Go.Proofs.YtcmohfckhikejaaDoor
open Go.RowKit

theorem grown_below {w w' : World} (hb : Below w.heap.size w w') (row : Option Nat) : w.grownBy w' row := ⟨hb.os, hb.tape, hb.output, hb.size, fun k hk _ => hb.block k hk⟩
theorem CurS.keptK {w w' : World} {g k : Nat} {cv : Value} (h : CurS w g cv k) (hb : Below w.heap.size w w') (hrb : ∀ w2, w'.grownBy w2 (some g) → RdB w2 cv) : CurS w' g cv k :=
  CurS.far h (grown_below hb none) (fun j hj => by cases hj) hrb
/-- What is drawn of a code: pieces of the call's own, and a short list. -/
structure Cod (w w' : World) (g : Nat) (cv : Value) (k : Nat) (vl vx : Value) (d q : Nat) : Prop where
  d1 : 1 ≤ d
  d5 : d ≤ 5
  q1 : 1 ≤ q
  q4 : q ≤ 4
  mat : ∃ m L, Mat w' w.heap.size w'.heap.size vl m ∧ m.length = d + q ∧ L ≤ 33 ∧ ∀ r ∈ m, r.length = L
  lost : ∃ xs, Rd w' vx xs ∧ (xs.length ≤ 6 ∧ ∀ y ∈ xs, 0 ≤ y) ∧ ∀ b, vx.ownBlock = some b → w.heap.size ≤ b
  cur : CurS w' g cv k
  grown : w.grownBy w' (some g)
theorem encR_length {m : List (List Int)} {q : Nat} (h : (encR m q).2 = true) : (encR m q).1.length = m.length + q := by
  unfold encR at h ⊢
  split at h
  next hok => rw [if_pos hok]; show (mulM (codeM m.length (q : Int).toNat) m).length = _; rw [Int.toNat_natCast, mulM_length, codeM_length]
  next => cases h
theorem encR_rows {m : List (List Int)} {q : Nat} (h : (encR m q).2 = true) : ∃ L, L ≤ 33 ∧ ∀ r ∈ (encR m q).1, r.length = L := by
  unfold encR at h ⊢
  split at h
  next hok =>
    rw [if_pos hok]
    simp only [encOk, Bool.and_eq_true] at hok
    obtain ⟨h1, h2, h3, h4⟩ := codeOk_facts hok.1
    have := piecesOk_at hok.2 0 (by omega)
    refine ⟨(m.getD 0 []).length, by omega, fun r hr => ?_⟩
    simp only [mulM, List.mem_map] at hr
    obtain ⟨x, _, rfl⟩ := hr
    rw [Gf.ci_length, mulRow_length]
  next => cases h

set_option maxRecDepth 100000 in
set_option maxHeartbeats 6400000 in
theorem coded_calls (g : Nat) (cv : Value) (k : Nat) (w : World) (h : CurS w g cv k) (hk : k ≤ 900000) (hcb : ∀ w', Below g w w' → RdB w' cv) :
    Calls Tryd.prog 36 #[.pointer (some ⟨g, 0, none⟩)] w fun e w' => ∃ (d q : Nat) (vl vx : Value), e = .returned (.tuple #[.int .i64 d, .int .i64 q, vl, vx]) ∧ Cod w w' g cv (k + 5000) vl vx d q := by
  have lt0 := curS_lt h
  have H := hide h
  have CB := hide hcb
  clear h hcb
  go_enter Tryd.func36, Tryd.ntmps36
  go_wp2_with fail
  refine (pick_calls g _ k 5 _ H.out (by omega) (by omega) (by omega)).mono ?_
  rintro e w1 ⟨p1, hp1, rfl, hc1, hg1⟩
  have C1 := hide hc1
  have G1 := hide hg1
  clear hc1 hg1 H
  go_wp2_with fail
  refine (pick_calls g _ (k + 2) 4 _ C1.out (by omega) (by omega) (by omega)).mono ?_
  rintro e w2 ⟨p2, hp2, rfl, hc2, hg2⟩
  have C2 := hide hc2
  have G2 := hide (grown_trans G1.out hg2)
  clear hc2 hg2 C1
  go_wp2_with fail
  obtain ⟨d, hd⟩ : ∃ d : Nat, d = 1 + p1 := ⟨_, rfl⟩
  obtain ⟨q, hq⟩ : ∃ q : Nat, q = 1 + p2 := ⟨_, rfl⟩
  have ed : (1 : Int) + (p1 : Int) = (d : Int) := by omega
  have eq2 : (1 : Int) + (p2 : Int) = (q : Int) := by omega
  have d1 : 1 ≤ d := by omega
  have d5 : d ≤ 5 := by omega
  have q1 : 1 ≤ q := by omega
  have q4 : q ≤ 4 := by omega
  rw [ed, eq2]
  clear ed eq2 hd hq hp1 hp2
  refine (pieces_calls g _ (k + 4) d _ C2.out (by omega) (by omega) (fun w' hb => CB.out w' ((grown_low G2.out lt0).trans hb))).mono ?_
  rintro e w3 ⟨v3, m3, L3, rfl, hM3, hm3, _, hc3, hg3⟩
  have C3 := hide hc3
  have G3 := hide (grown_trans G2.out hg3)
  have R3 := hide hM3.rd
  have M3L := hide hm3
  clear hc3 hg3 hM3 hm3 C2
  go_wp2_with fail
  refine (sEncodePieces_calls _ m3 q _ R3.out).mono ?_
  obtain ⟨ok, hok⟩ : ∃ b, b = (encR m3 q).2 := ⟨_, rfl⟩
  rw [← hok]
  rintro e w4 ⟨v4, rfl, hM4, hb4⟩
  have G4 := hide (grown_trans G3.out (grown_below hb4 (some g)))
  have C4 := hide (CurS.keptK C3.out hb4 (fun w' h' => CB.out w' (grown_low (grown_trans G4.out h') lt0)))
  have s3 := G3.out.size
  have s4 := hb4.size
  have XX : Hid (ok = true → (encR m3 q).1.length = d + q ∧ ∃ L, L ≤ 33 ∧ ∀ r ∈ (encR m3 q).1, r.length = L) := fun e => by
    have := encR_length (m := m3) (q := q) (by rw [← hok, e])
    exact ⟨by rw [this, M3L.out], encR_rows (by rw [← hok, e])⟩
  have M4 := hide hM4
  clear hM4 hb4 hok C3
  cases ok with
  | true =>
    obtain ⟨m, hm⟩ : ∃ m, m = (encR m3 q).1 := ⟨_, rfl⟩
    have ML : Hid (m.length = d + q) := by rw [hm]; exact (XX.out rfl).1
    obtain ⟨L, hLL⟩ : ∃ L, L ≤ 33 ∧ ∀ r ∈ m, r.length = L := by rw [hm]; exact (XX.out rfl).2
    have LL := hide hLL
    clear hLL
    obtain ⟨vs, hMV⟩ : Mat w4 w.heap.size w4.heap.size v4 m := by rw [hm]; exact M4.out.wider s3 (Nat.le_refl _)
    have MV := hide hMV
    obtain ⟨wE, hwE⟩ : ∃ x, x = w4 := ⟨_, rfl⟩
    have CE : Hid (CurS wE g cv (k + 4500)) := by rw [hwE]; exact C4.out.mono (by omega)
    have GE : Hid (w.grownBy wE (some g)) := by rw [hwE]; exact G4.out
    have ME : Hid (MatV wE w.heap.size wE.heap.size v4 vs m) := by rw [hwE]; exact MV.out
    have sE : w.heap.size ≤ wE.heap.size := GE.out.size
    subst hwE
    clear hm hMV MV M4 XX C4 G4
    go_wp2_with fail
    obtain ⟨Q1, hQ1⟩ : ∃ N : Nat, N = q + 1 := ⟨_, rfl⟩
    rw [show (q : Int) + 1 = (Q1 : Int) by omega]
    refine (pick_calls g _ (k + 4500) Q1 _ CE.out (by omega) (by omega) (by omega)).mono ?_
    rintro e w6 ⟨n6, hn6, rfl, hc6, hg6⟩
    have C6 := hide hc6
    have G6 := hide (grown_trans GE.out hg6)
    have M6 := hide (ME.out.chg (grown_chg hg6) (.inr (by omega)))
    have s6 := hg6.size
    have n5 : n6 ≤ 4 := by omega
    clear hc6 hg6 hQ1 hn6
    go_wp2
    go_loopw [10, 11] (fun vx vn wr => ∃ (r : Nat), vn = .int .i64 r ∧ r ≤ 4 ∧ (∃ xs, Rd wr vx xs ∧ (xs.length + r ≤ 4 ∧ ∀ y ∈ xs, 0 ≤ y) ∧ ∀ b, vx.ownBlock = some b → w.heap.size ≤ b) ∧ MatV wr w.heap.size wE.heap.size v4 vs m ∧ CurS wr g cv (k + 4600 - 2 * r) ∧ w.grownBy wr (some g) ∧ wE.heap.size ≤ wr.heap.size) (fun _ vn _ => (intOf vn).toNat)
    case atStart => exact ⟨n6, rfl, n5, ⟨[], ⟨none, 0, rfl, Nat.le_refl _, ⟨Nat.zero_le _, fun _ => rfl⟩, .inl rfl⟩, ⟨by simp; omega, fun y hy => nomatch hy⟩, fun b hb => by cases hb⟩, M6.out, C6.out.mono (by omega), G6.out, s6⟩
    case round =>
      obtain ⟨r, rfl, hr4, ⟨xs, hx, ⟨hxl, hxn⟩, hxb⟩, hM, hc, hg, hs⟩ := hrel
      have XN := hide hxn
      clear hxn
      have RX := hide hx
      have XB := hide hxb
      clear hxb
      have M := hide hM
      have C := hide hc
      have G := hide hg
      clear hx hM hc hg
      by_cases hr : 0 < r
      · have hr' : (0 : Int) < (r : Int) := by omega
        go_wp2_with fail
        obtain ⟨N, hN⟩ : ∃ N : Nat, N = d + q := ⟨_, rfl⟩
        rw [show (d : Int) + (q : Int) = (N : Int) by omega]
        refine (pick_calls g _ (k + 4600 - 2 * r) N _ C.out (by omega) (by omega) (by omega)).mono ?_
        rintro e w7 ⟨i7, hi7, rfl, hc7, hg7⟩
        have C7 := hide hc7
        have G7 := hide (grown_trans G.out hg7)
        have M7 := hide (M.out.chg (grown_chg hg7) (.inr (by omega)))
        have RX7 := hide (rd_far RX.out hg7 (fun b hb => by have := XB.out b hb; omega))
        have s7 := hg7.size
        have sw7 := G7.out.size
        clear hc7 hg7 hN hi7
        go_wp2_with fail
        refine (l1Put_calls _ xs (i7 : Int) _ RX7.out (by omega) (by omega) XN.out w.heap.size sw7 XB.out).mono ?_
        rintro e w8 ⟨v8, rfl, ⟨ys, hy1, ⟨hy2, hyn⟩, hy3⟩, hb8⟩
        have YN := hide hyn
        clear hyn
        have G8 := hide (grown_trans G7.out (grown_below hb8 (some g)))
        have C8 := hide (CurS.keptK C7.out hb8 (fun w' h' => CB.out w' (grown_low (grown_trans G8.out h') lt0)))
        have M8 := hide (M7.out.below hb8)
        have RY := hide hy1
        have YB := hide hy3
        have s8 := hb8.size
        clear hy1 hy3 hb8
        go_wp2
        go_roundw
        case rel => exact ⟨r - 1, Gf.int_eq (by omega), by omega, ⟨ys, RY.out, ⟨by omega, YN.out⟩, YB.out⟩, M8.out, C8.out.mono (by omega), G8.out, by omega⟩
        case measure => simp [intOf]; omega
      · obtain rfl : r = 0 := by omega
        have sw := G.out.size
        go_wp2_with fail
        refine (one_calls g _ (k + 4600) 12 _ C.out (by omega) (by omega) (by omega)).mono ?_
        rintro e w9 ⟨b9, rfl, hc9, hg9⟩
        have C9 := hide hc9
        have G9 := hide (grown_trans G.out hg9)
        have M9 := hide (M.out.chg (grown_chg hg9) (.inr (by omega)))
        have RX9 := hide (rd_far RX.out hg9 (fun b hb => by have := XB.out b hb; omega))
        have s9 := hg9.size
        clear hc9 hg9
        cases b9 with
        | false =>
          go_wp2
          try simp only [Exit.inBlock, Exit.then]
          refine bodyPost_ret (results_four rfl _ _ _) rfl ?_
          exact ⟨d, q, _, _, rfl, d1, d5, q1, q4, ⟨m, L, ⟨_, M9.out.wider (Nat.le_refl _) (by omega)⟩, ML.out, LL.out⟩, ⟨xs, RX9.out, ⟨by omega, XN.out⟩, XB.out⟩, C9.out.mono (by omega), G9.out⟩
        | true =>
          go_wp2_with fail
          refine (pick_calls g _ (k + 4602) 12 _ C9.out (by omega) (by omega) (by omega)).mono ?_
          rintro e w10 ⟨i10, hi10, rfl, hc10, hg10⟩
          have C10 := hide hc10
          have G10 := hide (grown_trans G9.out hg10)
          have M10 := hide (M9.out.chg (grown_chg hg10) (.inr (by omega)))
          have RX10 := hide (rd_far RX9.out hg10 (fun b hb => by have := XB.out b hb; omega))
          have s10 := hg10.size
          have sw10 := G10.out.size
          clear hc10 hg10
          go_wp2_with fail
          refine (l1Put_calls _ xs (i10 : Int) _ RX10.out (by omega) (by omega) XN.out w.heap.size sw10 XB.out).mono ?_
          rintro e w11 ⟨v11, rfl, ⟨ys, hy1, ⟨hy2, hyn⟩, hy3⟩, hb11⟩
          have YN := hide hyn
          clear hyn
          have G11 := hide (grown_trans G10.out (grown_below hb11 (some g)))
          have C11 := hide (CurS.keptK C10.out hb11 (fun w' h' => CB.out w' (grown_low (grown_trans G11.out h') lt0)))
          have M11 := hide (M10.out.below hb11)
          have RY := hide hy1
          have YB := hide hy3
          have s11 := hb11.size
          clear hy1 hy3 hb11
          go_wp2
          try simp only [Exit.inBlock, Exit.then]
          refine bodyPost_ret (results_four rfl _ _ _) rfl ?_
          exact ⟨d, q, _, _, rfl, d1, d5, q1, q4, ⟨m, L, ⟨_, M11.out.wider (Nat.le_refl _) (by omega)⟩, ML.out, LL.out⟩, ⟨ys, RY.out, ⟨by omega, YN.out⟩, YB.out⟩, C11.out.mono (by omega), G11.out⟩
  | false =>
    clear XX M4
    go_wp2_with fail
    obtain ⟨N, hN⟩ : ∃ N : Nat, N = d + q := ⟨_, rfl⟩
    rw [show (d : Int) + (q : Int) = (N : Int) by omega]
    refine (pieces_calls g _ (k + 2004) N _ C4.out (by omega) (by omega) (fun w' hb => CB.out w' ((grown_low G4.out lt0).trans hb))).mono ?_
    rintro e w5 ⟨v4, m, L, rfl, hM5, hm5, hLL, hc5, hg5⟩
    have LL := hide hLL
    clear hLL
    obtain ⟨vs, hMV⟩ : Mat w5 w.heap.size w5.heap.size v4 m := hM5.wider (by omega) (Nat.le_refl _)
    obtain ⟨wE, hwE⟩ : ∃ x, x = w5 := ⟨_, rfl⟩
    have ML : Hid (m.length = d + q) := by show m.length = d + q; omega
    have CE : Hid (CurS wE g cv (k + 4500)) := by rw [hwE]; exact hc5.mono (by omega)
    have GE : Hid (w.grownBy wE (some g)) := by rw [hwE]; exact grown_trans G4.out hg5
    have ME : Hid (MatV wE w.heap.size wE.heap.size v4 vs m) := by rw [hwE]; exact hMV
    have sE : w.heap.size ≤ wE.heap.size := GE.out.size
    subst hwE
    clear hM5 hm5 hc5 hg5 hMV hN C4 G4
    go_wp2_with fail
    obtain ⟨Q1, hQ1⟩ : ∃ N : Nat, N = q + 1 := ⟨_, rfl⟩
    rw [show (q : Int) + 1 = (Q1 : Int) by omega]
    refine (pick_calls g _ (k + 4500) Q1 _ CE.out (by omega) (by omega) (by omega)).mono ?_
    rintro e w6 ⟨n6, hn6, rfl, hc6, hg6⟩
    have C6 := hide hc6
    have G6 := hide (grown_trans GE.out hg6)
    have M6 := hide (ME.out.chg (grown_chg hg6) (.inr (by omega)))
    have s6 := hg6.size
    have n5 : n6 ≤ 4 := by omega
    clear hc6 hg6 hQ1 hn6
    go_wp2
    go_loopw [10, 11] (fun vx vn wr => ∃ (r : Nat), vn = .int .i64 r ∧ r ≤ 4 ∧ (∃ xs, Rd wr vx xs ∧ (xs.length + r ≤ 4 ∧ ∀ y ∈ xs, 0 ≤ y) ∧ ∀ b, vx.ownBlock = some b → w.heap.size ≤ b) ∧ MatV wr w.heap.size wE.heap.size v4 vs m ∧ CurS wr g cv (k + 4600 - 2 * r) ∧ w.grownBy wr (some g) ∧ wE.heap.size ≤ wr.heap.size) (fun _ vn _ => (intOf vn).toNat)
    case atStart => exact ⟨n6, rfl, n5, ⟨[], ⟨none, 0, rfl, Nat.le_refl _, ⟨Nat.zero_le _, fun _ => rfl⟩, .inl rfl⟩, ⟨by simp; omega, fun y hy => nomatch hy⟩, fun b hb => by cases hb⟩, M6.out, C6.out.mono (by omega), G6.out, s6⟩
    case round =>
      obtain ⟨r, rfl, hr4, ⟨xs, hx, ⟨hxl, hxn⟩, hxb⟩, hM, hc, hg, hs⟩ := hrel
      have XN := hide hxn
      clear hxn
      have RX := hide hx
      have XB := hide hxb
      clear hxb
      have M := hide hM
      have C := hide hc
      have G := hide hg
      clear hx hM hc hg
      by_cases hr : 0 < r
      · have hr' : (0 : Int) < (r : Int) := by omega
        go_wp2_with fail
        obtain ⟨N, hN⟩ : ∃ N : Nat, N = d + q := ⟨_, rfl⟩
        rw [show (d : Int) + (q : Int) = (N : Int) by omega]
        refine (pick_calls g _ (k + 4600 - 2 * r) N _ C.out (by omega) (by omega) (by omega)).mono ?_
        rintro e w7 ⟨i7, hi7, rfl, hc7, hg7⟩
        have C7 := hide hc7
        have G7 := hide (grown_trans G.out hg7)
        have M7 := hide (M.out.chg (grown_chg hg7) (.inr (by omega)))
        have RX7 := hide (rd_far RX.out hg7 (fun b hb => by have := XB.out b hb; omega))
        have s7 := hg7.size
        have sw7 := G7.out.size
        clear hc7 hg7 hN hi7
        go_wp2_with fail
        refine (l1Put_calls _ xs (i7 : Int) _ RX7.out (by omega) (by omega) XN.out w.heap.size sw7 XB.out).mono ?_
        rintro e w8 ⟨v8, rfl, ⟨ys, hy1, ⟨hy2, hyn⟩, hy3⟩, hb8⟩
        have YN := hide hyn
        clear hyn
        have G8 := hide (grown_trans G7.out (grown_below hb8 (some g)))
        have C8 := hide (CurS.keptK C7.out hb8 (fun w' h' => CB.out w' (grown_low (grown_trans G8.out h') lt0)))
        have M8 := hide (M7.out.below hb8)
        have RY := hide hy1
        have YB := hide hy3
        have s8 := hb8.size
        clear hy1 hy3 hb8
        go_wp2
        go_roundw
        case rel => exact ⟨r - 1, Gf.int_eq (by omega), by omega, ⟨ys, RY.out, ⟨by omega, YN.out⟩, YB.out⟩, M8.out, C8.out.mono (by omega), G8.out, by omega⟩
        case measure => simp [intOf]; omega
      · obtain rfl : r = 0 := by omega
        have sw := G.out.size
        go_wp2_with fail
        refine (one_calls g _ (k + 4600) 12 _ C.out (by omega) (by omega) (by omega)).mono ?_
        rintro e w9 ⟨b9, rfl, hc9, hg9⟩
        have C9 := hide hc9
        have G9 := hide (grown_trans G.out hg9)
        have M9 := hide (M.out.chg (grown_chg hg9) (.inr (by omega)))
        have RX9 := hide (rd_far RX.out hg9 (fun b hb => by have := XB.out b hb; omega))
        have s9 := hg9.size
        clear hc9 hg9
        cases b9 with
        | false =>
          go_wp2
          try simp only [Exit.inBlock, Exit.then]
          refine bodyPost_ret (results_four rfl _ _ _) rfl ?_
          exact ⟨d, q, _, _, rfl, d1, d5, q1, q4, ⟨m, L, ⟨_, M9.out.wider (Nat.le_refl _) (by omega)⟩, ML.out, LL.out⟩, ⟨xs, RX9.out, ⟨by omega, XN.out⟩, XB.out⟩, C9.out.mono (by omega), G9.out⟩
        | true =>
          go_wp2_with fail
          refine (pick_calls g _ (k + 4602) 12 _ C9.out (by omega) (by omega) (by omega)).mono ?_
          rintro e w10 ⟨i10, hi10, rfl, hc10, hg10⟩
          have C10 := hide hc10
          have G10 := hide (grown_trans G9.out hg10)
          have M10 := hide (M9.out.chg (grown_chg hg10) (.inr (by omega)))
          have RX10 := hide (rd_far RX9.out hg10 (fun b hb => by have := XB.out b hb; omega))
          have s10 := hg10.size
          have sw10 := G10.out.size
          clear hc10 hg10
          go_wp2_with fail
          refine (l1Put_calls _ xs (i10 : Int) _ RX10.out (by omega) (by omega) XN.out w.heap.size sw10 XB.out).mono ?_
          rintro e w11 ⟨v11, rfl, ⟨ys, hy1, ⟨hy2, hyn⟩, hy3⟩, hb11⟩
          have YN := hide hyn
          clear hyn
          have G11 := hide (grown_trans G10.out (grown_below hb11 (some g)))
          have C11 := hide (CurS.keptK C10.out hb11 (fun w' h' => CB.out w' (grown_low (grown_trans G11.out h') lt0)))
          have M11 := hide (M10.out.below hb11)
          have RY := hide hy1
          have YB := hide hy3
          have s11 := hb11.size
          clear hy1 hy3 hb11
          go_wp2
          try simp only [Exit.inBlock, Exit.then]
          refine bodyPost_ret (results_four rfl _ _ _) rfl ?_
          exact ⟨d, q, _, _, rfl, d1, d5, q1, q4, ⟨m, L, ⟨_, M11.out.wider (Nat.le_refl _) (by omega)⟩, ML.out, LL.out⟩, ⟨ys, RY.out, ⟨by omega, YN.out⟩, YB.out⟩, C11.out.mono (by omega), G11.out⟩
end Go.Proofs.YtcmohfckhikejaaDoor

namespace Go.Proofs.YtcmohfckhikejaaDoor
open Go.RowKit

/-- What is drawn of a code: pieces of the call's own, and a short list. -/
structure CodE (w w' : World) (g : Nat) (cv : Value) (k : Nat) (vl vx : Value) (d q : Nat) : Prop where
  d1 : 1 ≤ d
  d5 : d ≤ 5
  q1 : 1 ≤ q
  q4 : q ≤ 4
  both : ∃ m L hi xs, Mat w' w.heap.size hi vl m ∧ m.length = d + q ∧ (L ≤ 33 ∧ ∀ r ∈ m, r.length = L ∧ r.all Gf.elOk = true) ∧ hi ≤ w'.heap.size ∧ Rd w' vx xs ∧ (xs.length ≤ 6 ∧ ∀ y ∈ xs, 0 ≤ y) ∧ ∀ b, vx.ownBlock = some b → hi ≤ b
  cur : CurS w' g cv k
  grown : w.grownBy w' (some g)
theorem encR_rowsE {m : List (List Int)} {q : Nat} (h : (encR m q).2 = true) : ∃ L, L ≤ 33 ∧ ∀ r ∈ (encR m q).1, r.length = L ∧ r.all Gf.elOk = true := by
  unfold encR at h ⊢
  split at h
  next hok =>
    rw [if_pos hok]
    simp only [encOk, Bool.and_eq_true] at hok
    obtain ⟨h1, h2, h3, h4⟩ := codeOk_facts hok.1
    have := piecesOk_at hok.2 0 (by omega)
    refine ⟨(m.getD 0 []).length, by omega, fun r hr => ?_⟩
    simp only [mulM, List.mem_map] at hr
    obtain ⟨x, hx, rfl⟩ := hr
    obtain ⟨i, hi, rfl⟩ := List.getElem_of_mem hx
    have hel := (codeM_rows m.length (q : Int).toNat i hi).2
    rw [List.getD_eq_getElem?_getD, List.getElem?_eq_getElem hi, Option.getD_some] at hel
    exact ⟨by rw [Gf.ci_length, mulRow_length], elOk_lt (mulRow_lt (Gf.nat_allLt hel) _)⟩
  next => cases h

set_option maxRecDepth 100000 in
set_option maxHeartbeats 6400000 in
theorem codedE_calls (g : Nat) (cv : Value) (k : Nat) (w : World) (h : CurS w g cv k) (hk : k ≤ 900000) (hcb : ∀ w', Below g w w' → RdB w' cv) :
    Calls Tryd.prog 36 #[.pointer (some ⟨g, 0, none⟩)] w fun e w' => ∃ (d q : Nat) (vl vx : Value), e = .returned (.tuple #[.int .i64 d, .int .i64 q, vl, vx]) ∧ CodE w w' g cv (k + 5000) vl vx d q := by
  have lt0 := curS_lt h
  have H := hide h
  have CB := hide hcb
  clear h hcb
  go_enter Tryd.func36, Tryd.ntmps36
  go_wp2_with fail
  refine (pick_calls g _ k 5 _ H.out (by omega) (by omega) (by omega)).mono ?_
  rintro e w1 ⟨p1, hp1, rfl, hc1, hg1⟩
  have C1 := hide hc1
  have G1 := hide hg1
  clear hc1 hg1 H
  go_wp2_with fail
  refine (pick_calls g _ (k + 2) 4 _ C1.out (by omega) (by omega) (by omega)).mono ?_
  rintro e w2 ⟨p2, hp2, rfl, hc2, hg2⟩
  have C2 := hide hc2
  have G2 := hide (grown_trans G1.out hg2)
  clear hc2 hg2 C1
  go_wp2_with fail
  obtain ⟨d, hd⟩ : ∃ d : Nat, d = 1 + p1 := ⟨_, rfl⟩
  obtain ⟨q, hq⟩ : ∃ q : Nat, q = 1 + p2 := ⟨_, rfl⟩
  have ed : (1 : Int) + (p1 : Int) = (d : Int) := by omega
  have eq2 : (1 : Int) + (p2 : Int) = (q : Int) := by omega
  have d1 : 1 ≤ d := by omega
  have d5 : d ≤ 5 := by omega
  have q1 : 1 ≤ q := by omega
  have q4 : q ≤ 4 := by omega
  rw [ed, eq2]
  clear ed eq2 hd hq hp1 hp2
  refine (piecesE_calls g _ (k + 4) d _ C2.out (by omega) (by omega) (fun w' hb => CB.out w' ((grown_low G2.out lt0).trans hb))).mono ?_
  rintro e w3 ⟨v3, m3, L3, rfl, hM3, hm3, _, hc3, hg3⟩
  have C3 := hide hc3
  have G3 := hide (grown_trans G2.out hg3)
  have R3 := hide hM3.rd
  have M3L := hide hm3
  clear hc3 hg3 hM3 hm3 C2
  go_wp2_with fail
  refine (sEncodePieces_calls _ m3 q _ R3.out).mono ?_
  obtain ⟨ok, hok⟩ : ∃ b, b = (encR m3 q).2 := ⟨_, rfl⟩
  rw [← hok]
  rintro e w4 ⟨v4, rfl, hM4, hb4⟩
  have G4 := hide (grown_trans G3.out (grown_below hb4 (some g)))
  have C4 := hide (CurS.keptK C3.out hb4 (fun w' h' => CB.out w' (grown_low (grown_trans G4.out h') lt0)))
  have s3 := G3.out.size
  have s4 := hb4.size
  have XX : Hid (ok = true → (encR m3 q).1.length = d + q ∧ ∃ L, L ≤ 33 ∧ ∀ r ∈ (encR m3 q).1, r.length = L ∧ r.all Gf.elOk = true) := fun e => by
    have := encR_length (m := m3) (q := q) (by rw [← hok, e])
    exact ⟨by rw [this, M3L.out], encR_rowsE (by rw [← hok, e])⟩
  have M4 := hide hM4
  clear hM4 hb4 hok C3
  cases ok with
  | true =>
    obtain ⟨m, hm⟩ : ∃ m, m = (encR m3 q).1 := ⟨_, rfl⟩
    have ML : Hid (m.length = d + q) := by rw [hm]; exact (XX.out rfl).1
    obtain ⟨L, hLL⟩ : ∃ L, L ≤ 33 ∧ ∀ r ∈ m, r.length = L ∧ r.all Gf.elOk = true := by rw [hm]; exact (XX.out rfl).2
    have LL := hide hLL
    clear hLL
    obtain ⟨vs, hMV⟩ : Mat w4 w.heap.size w4.heap.size v4 m := by rw [hm]; exact M4.out.wider s3 (Nat.le_refl _)
    have MV := hide hMV
    obtain ⟨wE, hwE⟩ : ∃ x, x = w4 := ⟨_, rfl⟩
    have CE : Hid (CurS wE g cv (k + 4500)) := by rw [hwE]; exact C4.out.mono (by omega)
    have GE : Hid (w.grownBy wE (some g)) := by rw [hwE]; exact G4.out
    have ME : Hid (MatV wE w.heap.size wE.heap.size v4 vs m) := by rw [hwE]; exact MV.out
    have sE : w.heap.size ≤ wE.heap.size := GE.out.size
    subst hwE
    clear hm hMV MV M4 XX C4 G4
    go_wp2_with fail
    obtain ⟨Q1, hQ1⟩ : ∃ N : Nat, N = q + 1 := ⟨_, rfl⟩
    rw [show (q : Int) + 1 = (Q1 : Int) by omega]
    refine (pick_calls g _ (k + 4500) Q1 _ CE.out (by omega) (by omega) (by omega)).mono ?_
    rintro e w6 ⟨n6, hn6, rfl, hc6, hg6⟩
    have C6 := hide hc6
    have G6 := hide (grown_trans GE.out hg6)
    have M6 := hide (ME.out.chg (grown_chg hg6) (.inr (by omega)))
    have s6 := hg6.size
    have n5 : n6 ≤ 4 := by omega
    clear hc6 hg6 hQ1 hn6
    go_wp2
    go_loopw [10, 11] (fun vx vn wr => ∃ (r : Nat), vn = .int .i64 r ∧ r ≤ 4 ∧ (∃ xs, Rd wr vx xs ∧ (xs.length + r ≤ 4 ∧ ∀ y ∈ xs, 0 ≤ y) ∧ ∀ b, vx.ownBlock = some b → wE.heap.size ≤ b) ∧ MatV wr w.heap.size wE.heap.size v4 vs m ∧ CurS wr g cv (k + 4600 - 2 * r) ∧ w.grownBy wr (some g) ∧ wE.heap.size ≤ wr.heap.size) (fun _ vn _ => (intOf vn).toNat)
    case atStart => exact ⟨n6, rfl, n5, ⟨[], ⟨none, 0, rfl, Nat.le_refl _, ⟨Nat.zero_le _, fun _ => rfl⟩, .inl rfl⟩, ⟨by simp; omega, fun y hy => nomatch hy⟩, fun b hb => by cases hb⟩, M6.out, C6.out.mono (by omega), G6.out, s6⟩
    case round =>
      obtain ⟨r, rfl, hr4, ⟨xs, hx, ⟨hxl, hxn⟩, hxb⟩, hM, hc, hg, hs⟩ := hrel
      have XN := hide hxn
      clear hxn
      have RX := hide hx
      have XB := hide hxb
      clear hxb
      have M := hide hM
      have C := hide hc
      have G := hide hg
      clear hx hM hc hg
      by_cases hr : 0 < r
      · have hr' : (0 : Int) < (r : Int) := by omega
        go_wp2_with fail
        obtain ⟨N, hN⟩ : ∃ N : Nat, N = d + q := ⟨_, rfl⟩
        rw [show (d : Int) + (q : Int) = (N : Int) by omega]
        refine (pick_calls g _ (k + 4600 - 2 * r) N _ C.out (by omega) (by omega) (by omega)).mono ?_
        rintro e w7 ⟨i7, hi7, rfl, hc7, hg7⟩
        have C7 := hide hc7
        have G7 := hide (grown_trans G.out hg7)
        have M7 := hide (M.out.chg (grown_chg hg7) (.inr (by omega)))
        have RX7 := hide (rd_far RX.out hg7 (fun b hb => by have := XB.out b hb; omega))
        have s7 := hg7.size
        have sw7 := G7.out.size
        clear hc7 hg7 hN hi7
        go_wp2_with fail
        refine (l1Put_calls _ xs (i7 : Int) _ RX7.out (by omega) (by omega) XN.out wE.heap.size (by omega) XB.out).mono ?_
        rintro e w8 ⟨v8, rfl, ⟨ys, hy1, ⟨hy2, hyn⟩, hy3⟩, hb8⟩
        have YN := hide hyn
        clear hyn
        have G8 := hide (grown_trans G7.out (grown_below hb8 (some g)))
        have C8 := hide (CurS.keptK C7.out hb8 (fun w' h' => CB.out w' (grown_low (grown_trans G8.out h') lt0)))
        have M8 := hide (M7.out.below hb8)
        have RY := hide hy1
        have YB := hide hy3
        have s8 := hb8.size
        clear hy1 hy3 hb8
        go_wp2
        go_roundw
        case rel => exact ⟨r - 1, Gf.int_eq (by omega), by omega, ⟨ys, RY.out, ⟨by omega, YN.out⟩, YB.out⟩, M8.out, C8.out.mono (by omega), G8.out, by omega⟩
        case measure => simp [intOf]; omega
      · obtain rfl : r = 0 := by omega
        have sw := G.out.size
        go_wp2_with fail
        refine (one_calls g _ (k + 4600) 12 _ C.out (by omega) (by omega) (by omega)).mono ?_
        rintro e w9 ⟨b9, rfl, hc9, hg9⟩
        have C9 := hide hc9
        have G9 := hide (grown_trans G.out hg9)
        have M9 := hide (M.out.chg (grown_chg hg9) (.inr (by omega)))
        have RX9 := hide (rd_far RX.out hg9 (fun b hb => by have := XB.out b hb; omega))
        have s9 := hg9.size
        clear hc9 hg9
        cases b9 with
        | false =>
          go_wp2
          try simp only [Exit.inBlock, Exit.then]
          refine bodyPost_ret (results_four rfl _ _ _) rfl ?_
          exact ⟨d, q, _, _, rfl, d1, d5, q1, q4, ⟨m, L, wE.heap.size, xs, ⟨_, M9.out⟩, ML.out, LL.out, by omega, RX9.out, ⟨by omega, XN.out⟩, XB.out⟩, C9.out.mono (by omega), G9.out⟩
        | true =>
          go_wp2_with fail
          refine (pick_calls g _ (k + 4602) 12 _ C9.out (by omega) (by omega) (by omega)).mono ?_
          rintro e w10 ⟨i10, hi10, rfl, hc10, hg10⟩
          have C10 := hide hc10
          have G10 := hide (grown_trans G9.out hg10)
          have M10 := hide (M9.out.chg (grown_chg hg10) (.inr (by omega)))
          have RX10 := hide (rd_far RX9.out hg10 (fun b hb => by have := XB.out b hb; omega))
          have s10 := hg10.size
          have sw10 := G10.out.size
          clear hc10 hg10
          go_wp2_with fail
          refine (l1Put_calls _ xs (i10 : Int) _ RX10.out (by omega) (by omega) XN.out wE.heap.size (by omega) XB.out).mono ?_
          rintro e w11 ⟨v11, rfl, ⟨ys, hy1, ⟨hy2, hyn⟩, hy3⟩, hb11⟩
          have YN := hide hyn
          clear hyn
          have G11 := hide (grown_trans G10.out (grown_below hb11 (some g)))
          have C11 := hide (CurS.keptK C10.out hb11 (fun w' h' => CB.out w' (grown_low (grown_trans G11.out h') lt0)))
          have M11 := hide (M10.out.below hb11)
          have RY := hide hy1
          have YB := hide hy3
          have s11 := hb11.size
          clear hy1 hy3 hb11
          go_wp2
          try simp only [Exit.inBlock, Exit.then]
          refine bodyPost_ret (results_four rfl _ _ _) rfl ?_
          exact ⟨d, q, _, _, rfl, d1, d5, q1, q4, ⟨m, L, wE.heap.size, ys, ⟨_, M11.out⟩, ML.out, LL.out, by omega, RY.out, ⟨by omega, YN.out⟩, YB.out⟩, C11.out.mono (by omega), G11.out⟩
  | false =>
    clear XX M4
    go_wp2_with fail
    obtain ⟨N, hN⟩ : ∃ N : Nat, N = d + q := ⟨_, rfl⟩
    rw [show (d : Int) + (q : Int) = (N : Int) by omega]
    refine (piecesE_calls g _ (k + 2004) N _ C4.out (by omega) (by omega) (fun w' hb => CB.out w' ((grown_low G4.out lt0).trans hb))).mono ?_
    rintro e w5 ⟨v4, m, L, rfl, hM5, hm5, hLL, hc5, hg5⟩
    have LL := hide hLL
    clear hLL
    obtain ⟨vs, hMV⟩ : Mat w5 w.heap.size w5.heap.size v4 m := hM5.wider (by omega) (Nat.le_refl _)
    obtain ⟨wE, hwE⟩ : ∃ x, x = w5 := ⟨_, rfl⟩
    have ML : Hid (m.length = d + q) := by show m.length = d + q; omega
    have CE : Hid (CurS wE g cv (k + 4500)) := by rw [hwE]; exact hc5.mono (by omega)
    have GE : Hid (w.grownBy wE (some g)) := by rw [hwE]; exact grown_trans G4.out hg5
    have ME : Hid (MatV wE w.heap.size wE.heap.size v4 vs m) := by rw [hwE]; exact hMV
    have sE : w.heap.size ≤ wE.heap.size := GE.out.size
    subst hwE
    clear hM5 hm5 hc5 hg5 hMV hN C4 G4
    go_wp2_with fail
    obtain ⟨Q1, hQ1⟩ : ∃ N : Nat, N = q + 1 := ⟨_, rfl⟩
    rw [show (q : Int) + 1 = (Q1 : Int) by omega]
    refine (pick_calls g _ (k + 4500) Q1 _ CE.out (by omega) (by omega) (by omega)).mono ?_
    rintro e w6 ⟨n6, hn6, rfl, hc6, hg6⟩
    have C6 := hide hc6
    have G6 := hide (grown_trans GE.out hg6)
    have M6 := hide (ME.out.chg (grown_chg hg6) (.inr (by omega)))
    have s6 := hg6.size
    have n5 : n6 ≤ 4 := by omega
    clear hc6 hg6 hQ1 hn6
    go_wp2
    go_loopw [10, 11] (fun vx vn wr => ∃ (r : Nat), vn = .int .i64 r ∧ r ≤ 4 ∧ (∃ xs, Rd wr vx xs ∧ (xs.length + r ≤ 4 ∧ ∀ y ∈ xs, 0 ≤ y) ∧ ∀ b, vx.ownBlock = some b → wE.heap.size ≤ b) ∧ MatV wr w.heap.size wE.heap.size v4 vs m ∧ CurS wr g cv (k + 4600 - 2 * r) ∧ w.grownBy wr (some g) ∧ wE.heap.size ≤ wr.heap.size) (fun _ vn _ => (intOf vn).toNat)
    case atStart => exact ⟨n6, rfl, n5, ⟨[], ⟨none, 0, rfl, Nat.le_refl _, ⟨Nat.zero_le _, fun _ => rfl⟩, .inl rfl⟩, ⟨by simp; omega, fun y hy => nomatch hy⟩, fun b hb => by cases hb⟩, M6.out, C6.out.mono (by omega), G6.out, s6⟩
    case round =>
      obtain ⟨r, rfl, hr4, ⟨xs, hx, ⟨hxl, hxn⟩, hxb⟩, hM, hc, hg, hs⟩ := hrel
      have XN := hide hxn
      clear hxn
      have RX := hide hx
      have XB := hide hxb
      clear hxb
      have M := hide hM
      have C := hide hc
      have G := hide hg
      clear hx hM hc hg
      by_cases hr : 0 < r
      · have hr' : (0 : Int) < (r : Int) := by omega
        go_wp2_with fail
        obtain ⟨N, hN⟩ : ∃ N : Nat, N = d + q := ⟨_, rfl⟩
        rw [show (d : Int) + (q : Int) = (N : Int) by omega]
        refine (pick_calls g _ (k + 4600 - 2 * r) N _ C.out (by omega) (by omega) (by omega)).mono ?_
        rintro e w7 ⟨i7, hi7, rfl, hc7, hg7⟩
        have C7 := hide hc7
        have G7 := hide (grown_trans G.out hg7)
        have M7 := hide (M.out.chg (grown_chg hg7) (.inr (by omega)))
        have RX7 := hide (rd_far RX.out hg7 (fun b hb => by have := XB.out b hb; omega))
        have s7 := hg7.size
        have sw7 := G7.out.size
        clear hc7 hg7 hN hi7
        go_wp2_with fail
        refine (l1Put_calls _ xs (i7 : Int) _ RX7.out (by omega) (by omega) XN.out wE.heap.size (by omega) XB.out).mono ?_
        rintro e w8 ⟨v8, rfl, ⟨ys, hy1, ⟨hy2, hyn⟩, hy3⟩, hb8⟩
        have YN := hide hyn
        clear hyn
        have G8 := hide (grown_trans G7.out (grown_below hb8 (some g)))
        have C8 := hide (CurS.keptK C7.out hb8 (fun w' h' => CB.out w' (grown_low (grown_trans G8.out h') lt0)))
        have M8 := hide (M7.out.below hb8)
        have RY := hide hy1
        have YB := hide hy3
        have s8 := hb8.size
        clear hy1 hy3 hb8
        go_wp2
        go_roundw
        case rel => exact ⟨r - 1, Gf.int_eq (by omega), by omega, ⟨ys, RY.out, ⟨by omega, YN.out⟩, YB.out⟩, M8.out, C8.out.mono (by omega), G8.out, by omega⟩
        case measure => simp [intOf]; omega
      · obtain rfl : r = 0 := by omega
        have sw := G.out.size
        go_wp2_with fail
        refine (one_calls g _ (k + 4600) 12 _ C.out (by omega) (by omega) (by omega)).mono ?_
        rintro e w9 ⟨b9, rfl, hc9, hg9⟩
        have C9 := hide hc9
        have G9 := hide (grown_trans G.out hg9)
        have M9 := hide (M.out.chg (grown_chg hg9) (.inr (by omega)))
        have RX9 := hide (rd_far RX.out hg9 (fun b hb => by have := XB.out b hb; omega))
        have s9 := hg9.size
        clear hc9 hg9
        cases b9 with
        | false =>
          go_wp2
          try simp only [Exit.inBlock, Exit.then]
          refine bodyPost_ret (results_four rfl _ _ _) rfl ?_
          exact ⟨d, q, _, _, rfl, d1, d5, q1, q4, ⟨m, L, wE.heap.size, xs, ⟨_, M9.out⟩, ML.out, LL.out, by omega, RX9.out, ⟨by omega, XN.out⟩, XB.out⟩, C9.out.mono (by omega), G9.out⟩
        | true =>
          go_wp2_with fail
          refine (pick_calls g _ (k + 4602) 12 _ C9.out (by omega) (by omega) (by omega)).mono ?_
          rintro e w10 ⟨i10, hi10, rfl, hc10, hg10⟩
          have C10 := hide hc10
          have G10 := hide (grown_trans G9.out hg10)
          have M10 := hide (M9.out.chg (grown_chg hg10) (.inr (by omega)))
          have RX10 := hide (rd_far RX9.out hg10 (fun b hb => by have := XB.out b hb; omega))
          have s10 := hg10.size
          have sw10 := G10.out.size
          clear hc10 hg10
          go_wp2_with fail
          refine (l1Put_calls _ xs (i10 : Int) _ RX10.out (by omega) (by omega) XN.out wE.heap.size (by omega) XB.out).mono ?_
          rintro e w11 ⟨v11, rfl, ⟨ys, hy1, ⟨hy2, hyn⟩, hy3⟩, hb11⟩
          have YN := hide hyn
          clear hyn
          have G11 := hide (grown_trans G10.out (grown_below hb11 (some g)))
          have C11 := hide (CurS.keptK C10.out hb11 (fun w' h' => CB.out w' (grown_low (grown_trans G11.out h') lt0)))
          have M11 := hide (M10.out.below hb11)
          have RY := hide hy1
          have YB := hide hy3
          have s11 := hb11.size
          clear hy1 hy3 hb11
          go_wp2
          try simp only [Exit.inBlock, Exit.then]
          refine bodyPost_ret (results_four rfl _ _ _) rfl ?_
          exact ⟨d, q, _, _, rfl, d1, d5, q1, q4, ⟨m, L, wE.heap.size, ys, ⟨_, M11.out⟩, ML.out, LL.out, by omega, RY.out, ⟨by omega, YN.out⟩, YB.out⟩, C11.out.mono (by omega), G11.out⟩
end Go.Proofs.YtcmohfckhikejaaDoor

namespace Go.Proofs.YtcmohfckhikejaaDoor
open Go.RowKit

end Go.Proofs.YtcmohfckhikejaaDoor

namespace Go.Proofs.YtcmohfckhikejaaDoor
open Go.RowKit

end Go.Proofs.YtcmohfckhikejaaDoor

namespace Go.Proofs.YtcmohfckhikejaaDoor
open Go.RowKit

theorem drew_grown (w : World) (row : Option Nat) : w.grownBy w.drew row := ⟨rfl, rfl, rfl, Nat.le_refl _, fun _ _ _ => rfl⟩
theorem CurS.drew {w : World} {g k : Nat} {cv : Value} (h : CurS w g cv k) (hrb : ∀ w2, w.drew.grownBy w2 (some g) → RdB w2 cv) : CurS w.drew g cv k :=
  CurS.far h (drew_grown w none) (fun _ hj => by cases hj) hrb

end Go.Proofs.YtcmohfckhikejaaDoor

namespace Go.Proofs.YtcmohfckhikejaaDoor
open Go.RowKit

/-- What is held while lost pieces are spoilt: the cursor, the pieces, the list of what is lost. -/
structure DS (W0 : World) (g hi : Nat) (cv vl vx : Value) (vs : List Value) (xs : List Int) (n L k : Nat) (wr : World) (b : List (List Int)) : Prop where
  cur : CurS wr g cv k
  grown : W0.grownBy wr (some g)
  mat : MatV wr W0.heap.size hi vl vs b
  rd : Rd wr vx xs
  len : b.length = n
  rows : ∀ r ∈ b, r.length = L ∧ r.all Gf.elOk = true
theorem DS.row {W0 : World} {g hi : Nat} {cv vl vx : Value} {vs : List Value} {xs : List Int} {n L k : Nat} {wr : World} {b : List (List Int)} (h : DS W0 g hi cv vl vx vs xs n L k wr b) (K : Nat) (hK : K < n) : (b.getD K []).length = L ∧ (b.getD K []).all Gf.elOk = true := by
  have hl : K < b.length := by rw [h.len]; exact hK
  exact h.rows _ (by rw [List.getD_eq_getElem?_getD, List.getElem?_eq_getElem hl]; exact List.getElem_mem hl)
theorem DS.on {W0 : World} {g hi : Nat} {cv vl vx : Value} {vs : List Value} {xs : List Int} {n L k k' : Nat} {wr w' : World} {b : List (List Int)} (h : DS W0 g hi cv vl vx vs xs n L k wr b) (hg0 : g < W0.heap.size) (hhi : W0.heap.size ≤ hi)
    (hxb : ∀ j, vx.ownBlock = some j → hi ≤ j) (hc : CurS w' g cv k') (hg : wr.grownBy w' (some g)) : DS W0 g hi cv vl vx vs xs n L k' w' b :=
  ⟨hc, grown_trans h.grown hg, h.mat.chg (grown_chg hg) (.inr (by omega)), rd_far h.rd hg (fun j hj => by have := hxb j hj; omega), h.len, h.rows⟩
theorem DS.mono {W0 : World} {g hi : Nat} {cv vl vx : Value} {vs : List Value} {xs : List Int} {n L k k' : Nat} {wr : World} {b : List (List Int)} (h : DS W0 g hi cv vl vx vs xs n L k wr b) (hk : k ≤ k') : DS W0 g hi cv vl vx vs xs n L k' wr b :=
  ⟨h.cur.mono hk, h.grown, h.mat, h.rd, h.len, h.rows⟩
theorem DS.put {W0 : World} {g hi : Nat} {cv vl vx : Value} {vs : List Value} {xs : List Int} {n L k : Nat} {wr : World} {b : List (List Int)} (h : DS W0 g hi cv vl vx vs xs n L k wr b) (hg0 : g < W0.heap.size)
    (hxb : ∀ j, vx.ownBlock = some j → hi ≤ j) (lo : ∀ w', Below g W0 w' → RdB w' cv) (K j z rg rcap : Nat) (hK : K < n) (hz : z < 256) (hv : vs.getD K nilRow = .slice (some ⟨rg, 0, none⟩) L rcap) :
    DS W0 g hi cv vl vx vs xs n L k (wr.setCell ⟨rg, j, none⟩ (.int .i64 z)) (b.set K ((b.getD K []).set j z)) := by
  have hKb : K < b.length := by rw [h.len]; exact hK
  have hro := h.mat.row K hKb
  rw [hv] at hro
  have hlow := (hro.lt rg rfl).1
  have hhigh : rg < hi := h.mat.tops K rg hKb (by rw [hv]; rfl)
  have hput := hro.put j (z : Int)
  have hgg : wr.grownBy (wr.setCell ⟨rg, j, none⟩ (.int .i64 z)) (some rg) := hput.2
  have G5 := grown_far h.grown hgg (fun i hi => by cases hi; exact hlow)
  refine ⟨CurS.far h.cur hgg (fun i hi => by cases hi; omega) (fun w' h' => lo w' (grown_low (grown_trans G5 h') hg0)), G5, h.mat.write K hKb _ (by rw [hv]; exact hput.1) (by rw [hv]; exact hput.2), rd_far h.rd hgg (fun i hi => by have := hxb i hi; omega), by rw [List.length_set]; exact h.len, fun r hr => ?_⟩
  rcases List.mem_or_eq_of_mem_set hr with hr | hr
  · exact h.rows r hr
  · obtain ⟨r1, r2⟩ := h.row K hK
    subst hr
    refine ⟨by rw [List.length_set]; exact r1, ?_⟩
    rw [List.all_eq_true] at r2 ⊢
    intro x hx
    rcases List.mem_or_eq_of_mem_set hx with hx | hx
    · exact r2 x hx
    · rw [hx]; exact Gf.elOk_iff.2 (by omega)

set_option maxRecDepth 100000 in
set_option maxHeartbeats 12800000 in
theorem drawDecodePieces_calls (cv : Value) (w : World) (h : RdB w cv) :
    Calls Tryd.prog 12 #[cv] w fun e w' => ∃ (d q : Nat) (v u : Value) (m : List (List Int)) (xs : List Int), e = .returned (.tuple #[.int .i64 d, .int .i64 q, v, u]) ∧ RdM w' v m ∧ Rd w' u xs ∧ m.all (fun r : List Int => r.all Gf.elOk) = true ∧ Below w.heap.size w w' := by
  have C0 := hide (cur_new h)
  have LO := hide (draw_low h)
  obtain ⟨a0, cap0, zs0, rfl, _⟩ := h
  obtain ⟨W0, hW0⟩ : ∃ W0, W0 = w.alloc (.cells #[Value.slice a0 zs0.length cap0, .int .i64 0, .int .u64 0] 45) := ⟨_, rfl⟩
  have ws : W0.heap.size = w.heap.size + 1 := by rw [hW0]; simp
  have HW := hide hW0
  have LOW : Hid (∀ w', Below w.heap.size W0 w' → RdB w' (.slice a0 zs0.length cap0)) := by rw [hW0]; exact LO.out
  go_enter Tryd.func12, Tryd.ntmps12
  go_wp2_with fail
  refine (codedE_calls w.heap.size _ 0 _ C0.out (by omega) LO.out).mono ?_
  rw [← hW0]
  rintro e w1 ⟨d, q, vl, vx, rfl, hc⟩
  obtain ⟨d1, d5, q1, q4, ⟨m, L, hi, xs, ⟨vs, hM⟩, hm, ⟨hL, hr⟩, hhi, hx, ⟨hxl, hxn⟩, hxb⟩, hcur, hgr⟩ := hc
  have m9 : m.length ≤ 9 := by omega
  have m1 : 0 < m.length := by omega
  have XN := hide hxn
  have XB := hide hxb
  have hWhi : W0.heap.size ≤ hi := by
    obtain ⟨g, cap, e, _⟩ := hM.open m1
    have h1 := (World.ownsRow.lt hM.head g (by rw [e]; rfl)).1
    have h2 := hM.top g (by rw [e]; rfl)
    omega
  have D0 : Hid (DS W0 w.heap.size hi (.slice a0 zs0.length cap0) vl vx vs xs m.length L 5000 w1 m) := ⟨hcur, hgr, hM, hx, rfl, hr⟩
  obtain ⟨og, ocap, rfl⟩ : ∃ g cap, vl = .slice (some ⟨g, 0, none⟩) m.length cap := by
    obtain ⟨g, cap, e, _⟩ := hM.open m1
    exact ⟨g, cap, e⟩
  obtain ⟨xa, xc, rfl⟩ : ∃ a c, vx = .slice a xs.length c := by
    obtain ⟨a, c, e, _⟩ := hx
    exact ⟨a, c, e⟩
  obtain ⟨N, hN⟩ : ∃ N, N = m.length := ⟨_, rfl⟩
  rw [← hN] at D0 m9 m1 ⊢
  have ROWS : Hid (∀ K, K < N → 0 < L → ∃ rg rcap, vs.getD K nilRow = .slice (some ⟨rg, 0, none⟩) L rcap) := fun K hK h0 => by
    have hKb : K < m.length := by rw [← hN]; exact hK
    have hl := (D0.out.row K hK).1
    obtain ⟨rg, rcap, hre, _⟩ := (hM.row K hKb).open1 (by rw [hl]; exact h0)
    rw [hl] at hre
    exact ⟨rg, rcap, hre⟩
  clear hcur hgr hM hx hxn hxb hr hm hW0 C0 hN
  go_wp2
  go_loopw [26] (fun vi wr => ∃ (i : Nat) (b : List (List Int)), i ≤ xs.length ∧ vi = .int .i64 i ∧ DS W0 w.heap.size hi (.slice a0 zs0.length cap0) (.slice (some ⟨og, 0, none⟩) N ocap) (.slice xa xs.length xc) vs xs N L (5000 + 70 * i) wr b) (fun vi _ => xs.length - (intOf vi).toNat)
  case atStart => exact ⟨0, m, Nat.zero_le _, rfl, D0.out⟩
  case round =>
    obtain ⟨i, b, hi', rfl, hD⟩ := hrel
    have D := hide hD
    clear hD
    by_cases hlt : i < xs.length
    · have hlt' : (i : Int) < (xs.length : Int) := by omega
      obtain ⟨xb, xo, u, rfl, hcx, hu⟩ := D.out.rd.row i hlt
      obtain ⟨x, hx⟩ : ∃ x, x = xs.getD i 0 := ⟨_, rfl⟩
      have hx0 : 0 ≤ x := by
        rw [hx]
        exact XN.out _ (by rw [List.getD_eq_getElem?_getD, List.getElem?_eq_getElem hlt]; simp)
      rw [← hx] at hu
      subst hu
      clear hx
      obtain ⟨K, rfl⟩ := Int.eq_ofNat_of_zero_le hx0
      by_cases hK : K < N
      · have hK' : (K : Int) < (N : Int) := by omega
        have hKb : K < b.length := by rw [D.out.len]; exact hK
        have hcell := D.out.mat.cell K hKb
        obtain ⟨ra, rn, rc, hre⟩ := (D.out.mat.row K hKb).shape
        have hrn : rn = L := by
          obtain ⟨a, c, e, _⟩ := (D.out.mat.row K hKb).rd
          rw [hre, (D.out.row K hK).1] at e
          simp at e
          exact e.2.1
        subst hrn
        rw [hre] at hcell
        have RE := hide hre
        clear hre hKb
        go_wp2
        go_loopw [39] (fun vj wr => ∃ (j : Nat) (b : List (List Int)), j ≤ rn ∧ vj = .int .i64 j ∧ DS W0 w.heap.size hi (.slice a0 zs0.length cap0) (.slice (some ⟨og, 0, none⟩) N ocap) (.slice (some ⟨xb, xo, none⟩) xs.length xc) vs xs N rn (5000 + 70 * i + 2 * j) wr b) (fun vj _ => rn - (intOf vj).toNat)
        case atStart => exact ⟨0, b, Nat.zero_le _, rfl, D.out⟩
        case round =>
          obtain ⟨j, b2, hj, rfl, hD2⟩ := hrel
          have D2 := hide hD2
          clear hD2
          by_cases hltj : j < rn
          · have hltj' : (j : Int) < (rn : Int) := by omega
            obtain ⟨rg, rcap, hrg⟩ := ROWS.out K hK (by omega)
            have RG := hide hrg
            have F : Hid (∀ k' w', DS W0 w.heap.size hi (.slice a0 zs0.length cap0) (.slice (some ⟨og, 0, none⟩) N ocap) (.slice (some ⟨xb, xo, none⟩) xs.length xc) vs xs N rn k' w' b2 → w'.cell? ⟨og, K, none⟩ = some (.slice (some ⟨rg, 0, none⟩) rn rcap) ∧ w'.frozen? ⟨rg, j, none⟩ = false ∧ w'.cell? ⟨rg, j, none⟩ = some (.int .i64 ((b2.getD K []).getD j 0))) := by
              intro k' w' hd
              have hKb : K < b2.length := by rw [hd.len]; exact hK
              have h1 := hd.mat.cell K hKb
              have h2 := hd.mat.row K hKb
              rw [RG.out] at h1 h2
              have h3 := h2.at j (by rw [(hd.row K hK).1]; exact hltj)
              exact ⟨h1, h3.1, h3.2⟩
            have D3 : Hid (DS W0 w.heap.size hi (.slice a0 zs0.length cap0) (.slice (some ⟨og, 0, none⟩) N ocap) (.slice (some ⟨xb, xo, none⟩) xs.length xc) vs xs N rn (5000 + 70 * i + 2 * j) wr.drew b2) := by
              refine D2.out.on (by omega) hWhi XB.out (CurS.drew D2.out.cur fun w2 h2 => ?_) (drew_grown _ _)
              exact LOW.out w2 (grown_low (grown_trans (grown_trans D2.out.grown (drew_grown _ _)) h2) (by omega))
            obtain ⟨f1, f2, f3⟩ := F.out _ _ D3.out
            have f1' : wr.cell? ⟨og, K, none⟩ = some (.slice (some ⟨rg, 0, none⟩) rn rcap) := (F.out _ _ D2.out).1
            have PK : Hid (∀ w', DS W0 w.heap.size hi (.slice a0 zs0.length cap0) (.slice (some ⟨og, 0, none⟩) N ocap) (.slice (some ⟨xb, xo, none⟩) xs.length xc) vs xs N rn (5000 + 70 * i + 2 * j) w' b2 → Calls Tryd.prog 18 #[.pointer (some ⟨w.heap.size, 0, none⟩), .int .i64 256] w' fun e w'' => ∃ z : Nat, z < 256 ∧ e = .returned (.int .i64 z) ∧ DS W0 w.heap.size hi (.slice a0 zs0.length cap0) (.slice (some ⟨og, 0, none⟩) N ocap) (.slice (some ⟨xb, xo, none⟩) xs.length xc) vs xs N rn (5000 + 70 * i + 2 * j + 2) w'' b2) := by
              intro w' hd
              refine (pick_calls w.heap.size _ (5000 + 70 * i + 2 * j) 256 _ hd.cur (by omega) (by omega) (by omega)).mono ?_
              rintro e w'' ⟨z, hz, rfl, hc', hg'⟩
              exact ⟨z, hz, rfl, hd.on (by omega) hWhi XB.out hc' hg'⟩
            clear hrg
            go_wp2
            go_region_with (go_at_call 18; refine (PK.out _ D3.out).mono ?_; rintro e w4 ⟨z, hz4, rfl, d4⟩; obtain ⟨g1, g2, g3⟩ := F.out _ w4 d4; have D4 := hide d4; clear d4)
            all_goals
              go_wp2
              go_roundw
              case rel => exact ⟨j + 1, _, by omega, by go_num, (D4.out.put (by omega) XB.out LOW.out K j z rg rcap hK hz4 RG.out).mono (by omega)⟩
              case measure => simp [intOf]; omega
          · obtain rfl : j = rn := by omega
            go_wp2
            go_roundw
            case rel => exact ⟨i + 1, b2, by omega, by go_num, D2.out.mono (by omega)⟩
            case measure => simp [intOf]; omega
      · have hK' : ¬ (K : Int) < (N : Int) := by omega
        go_wp2
        go_roundw
        case rel => exact ⟨i + 1, b, by omega, by go_num, D.out.mono (by omega)⟩
        case measure => simp [intOf]; omega
    · obtain rfl : i = xs.length := by omega
      go_wp2
      try simp only [Exit.inBlock, Exit.then]
      refine bodyPost_ret (results_four rfl _ _ _) rfl ?_
      have hg := D.out.grown
      rw [HW.out] at hg
      exact ⟨d, q, _, _, b, xs, rfl, D.out.mat.rd, D.out.rd, List.all_eq_true.2 fun r hr => (D.out.rows r hr).2, cur_below hg⟩

set_option maxRecDepth 100000 in
theorem drawCodeMatrix_calls (cv : Value) (w : World) (h : RdB w cv) :
    Calls Tryd.prog 14 #[cv] w fun e w' => ∃ d q : Nat, e = .returned (.tuple #[.int .i64 d, .int .i64 q]) ∧ Below w.heap.size w w' := by
  have C0 := hide (cur_new h)
  obtain ⟨a0, cap0, zs0, rfl, _⟩ := h
  go_enter Tryd.func14, Tryd.ntmps14
  go_wp2_with fail
  refine (pick_calls w.heap.size _ 0 8 _ C0.out (by omega) (by omega) (by omega)).mono ?_
  rintro e w1 ⟨d, _, rfl, hc1, hg1⟩
  have C1 := hide hc1
  have G1 := hide hg1
  clear hc1 hg1
  go_wp2_with fail
  refine (pick_calls w.heap.size _ 2 6 _ C1.out (by omega) (by omega) (by omega)).mono ?_
  rintro e w2 ⟨q, _, rfl, hc2, hg2⟩
  have B := hide (cur_below (grown_trans G1.out hg2))
  clear hc2 hg2
  go_wp2
  go_ret2
  exact ⟨d, q, rfl, B.out⟩

set_option maxRecDepth 100000 in
set_option maxHeartbeats 800000 in
theorem drawEncodePieces_calls (cv : Value) (w : World) (h : RdB w cv) :
    Calls Tryd.prog 4 #[cv] w fun e w' => ∃ (q : Nat) (v : Value) (m : List (List Int)), e = .returned (.tuple #[v, .int .i64 q]) ∧ RdM w' v m ∧ (1 ≤ m.length ∧ m.length ≤ 6) ∧ (1 ≤ q ∧ q ≤ 5) ∧ Below w.heap.size w w' := by
  have C0 := hide (cur_new h)
  have LO := hide (draw_low h)
  obtain ⟨a0, cap0, zs0, rfl, _⟩ := h
  go_enter Tryd.func4, Tryd.ntmps4
  go_wp2_with fail
  refine (pick_calls w.heap.size _ 0 6 _ C0.out (by omega) (by omega) (by omega)).mono ?_
  rintro e w1 ⟨p, hp, rfl, hc1, hg1⟩
  have C1 := hide hc1
  have G1 := hide hg1
  clear hc1 hg1
  go_wp2_with fail
  obtain ⟨R, hR⟩ : ∃ R : Nat, R = 1 + p := ⟨_, rfl⟩
  have eR : (1 : Int) + (p : Int) = (R : Int) := by omega
  rw [eR]
  have R6 : 1 ≤ R ∧ R ≤ 6 := by omega
  clear hR eR hp
  refine (pieces_calls w.heap.size _ 2 R _ C1.out (by omega) (by omega) (fun w' hb => LO.out w' ((grown_low G1.out (by simp)).trans hb))).mono ?_
  rintro e w2 ⟨v2, m, L, rfl, hM, hm, _, hc2, hg2⟩
  have C2 := hide hc2
  have G2 := hide (grown_trans G1.out hg2)
  have M2 := hide hM
  have lt1 : w.heap.size < w1.heap.size := curS_lt C1.out
  have ML := hide hm
  clear hc2 hg2 hM hm
  go_wp2_with fail
  refine (pick_calls w.heap.size _ 2002 5 _ C2.out (by omega) (by omega) (by omega)).mono ?_
  rintro e w3 ⟨q, hq, rfl, hc3, hg3⟩
  have B := hide (cur_below (grown_trans G2.out hg3))
  have R3 : Hid (RdM w3 v2 m) := by
    obtain ⟨vs, hv⟩ := M2.out
    exact (hv.chg (grown_chg hg3) (.inr (by omega))).rd
  clear hc3 hg3
  go_wp2
  go_ret2
  exact ⟨1 + q, _, m, by simp, R3.out, by rw [ML.out]; exact R6, by omega, B.out⟩
end Go.Proofs.YtcmohfckhikejaaDoor

namespace Go.Proofs.YtcmohfckhikejaaDoor
open Go.RowKit

set_option maxRecDepth 100000 in
set_option maxHeartbeats 800000 in
theorem sameInts_quiet (v1 v2 : Value) (xs : List Int) (w : World) (h1 : Rd w v1 xs) (h2 : Rd w v2 xs) :
    Calls Tryd.prog 25 #[v1, v2] w fun e w' => e = .returned (.bool true) ∧ ∃ n, w' = w.drewN n := by
  obtain ⟨a1, c1, rfl, _, m1, k1⟩ := h1
  obtain ⟨a2, c2, rfl, _, _, k2⟩ := h2
  have hm : xs.length ≤ maxLen := by omega
  unfold maxLen at hm
  have K := hide k1
  have L := hide k2
  clear k1 k2 m1
  go_enter Tryd.func25, Tryd.ntmps25
  go_wp2
  go_loopw [13] (fun vi wr => ∃ k n : Nat, k ≤ xs.length ∧ vi = .int .i64 k ∧ wr = w.drewN n) (fun vi _ => xs.length - (intOf vi).toNat)
  case atStart => exact ⟨0, 0, Nat.zero_le _, rfl, rfl⟩
  case round =>
    obtain ⟨k, n, hk, rfl, rfl⟩ := hrel
    by_cases hlt : k < xs.length
    · rcases K.out with h3 | ⟨b, off, rfl, hbs, hc⟩
      · subst h3; simp at hlt
      rcases L.out with h3 | ⟨b', off', rfl, hbs', hc'⟩
      · subst h3; simp at hlt
      have e1 : w.cell? ⟨b, off + k, none⟩ = some (.int .i64 (xs.getD k 0)) := hc k hlt
      have e2 : w.cell? ⟨b', off' + k, none⟩ = some (.int .i64 (xs.getD k 0)) := hc' k hlt
      have hlt' : (k : Int) < (xs.length : Int) := by omega
      clear hc hc'
      go_wp2
      go_quiet (fail)
      go_wp2
      go_roundw
      case rel => exact ⟨k + 1, _, by omega, by go_num, rfl⟩
      case measure => simp [intOf]; omega
    · obtain rfl : k = xs.length := by omega
      go_wp2
      go_ret
      exact ⟨rfl, _, rfl⟩
theorem sameInts_same (v1 v2 : Value) (xs : List Int) (w : World) (h1 : Rd w v1 xs) (h2 : Rd w v2 xs) :
    Calls Tryd.prog 25 #[v1, v2] w fun e w' => e = .returned (.bool true) ∧ Below w.heap.size w w' :=
  (sameInts_quiet v1 v2 xs w h1 h2).mono (fun _ _ ⟨h, n, hn⟩ => ⟨h, hn ▸ below_drewN' n⟩)

set_option maxRecDepth 100000 in
set_option maxHeartbeats 800000 in
theorem sameLists_same (v1 v2 : Value) (m : List (List Int)) (w : World) (h1 : RdM w v1 m) (h2 : RdM w v2 m) :
    Calls Tryd.prog 7 #[v1, v2] w fun e w' => e = .returned (.bool true) ∧ Below w.heap.size w w' := by
  have K := hide h1
  have L := hide h2
  obtain ⟨a1, c1, rfl, _, m1, k1⟩ := h1
  obtain ⟨a2, c2, rfl, _, _, k2⟩ := h2
  have hm : m.length ≤ maxLen := by omega
  unfold maxLen at hm
  clear k1 k2 m1
  go_enter Tryd.func7, Tryd.ntmps7
  go_wp2
  go_loopw [13] (fun vi wr => ∃ k : Nat, k ≤ m.length ∧ vi = .int .i64 k ∧ Below w.heap.size w wr) (fun vi _ => m.length - (intOf vi).toNat)
  case atStart => exact ⟨0, Nat.zero_le _, rfl, Below.refl _ _⟩
  case round =>
    obtain ⟨k, hk, rfl, hb⟩ := hrel
    by_cases hlt : k < m.length
    · obtain ⟨b, off, u, rfl, hc1, hu⟩ := (K.out.below hb).row k hlt
      obtain ⟨b', off', u', rfl, hc2, hu'⟩ := (L.out.below hb).row k hlt
      have U := hide hu
      have U' := hide hu'
      have hlt' : (k : Int) < (m.length : Int) := by omega
      have B := hide hb
      clear hu hu' hb
      go_wp2
      go_quiet ((go_at_call 25; exact quiet_more (sameInts_quiet _ _ _ _ (Rd.drewN U.out _) (Rd.drewN U'.out _))))
      go_wp2
      go_roundw
      case rel => exact ⟨k + 1, by omega, by go_num, below_drewN B.out _⟩
      case measure => simp [intOf]; omega
    · obtain rfl : k = m.length := by omega
      go_wp2
      go_ret
      exact ⟨rfl, hb⟩

end Go.Proofs.YtcmohfckhikejaaDoor

/-
  Drawn texts of chapter 9: what DrawDedupAll and DrawJoinChunks answer. Each contract says what it asks.
-/
import Derived.Test.YthmijjcddjlebaaDedupB13
import Derived.Test.YthmijjcddjlebaaDedupB4
import Derived.Test.YthmijjcddjlebaaDedupB14
import Derived.Deep.DeepCutAuto
namespace Go.Proofs.Ythmijjcddjlebaa
open Go.RowKit
set_option linter.unusedVariables false

theorem OwnT.cur {w w' : World} {g n : Nat} {v : Value} {xs : List Value} (h : w.ownsRow (g + 1) 9 1 v n xs) (hg : w.grownBy w' (some g)) : w'.ownsRow (g + 1) 9 1 v n xs :=
  World.ownsRow.kept h hg (by
    cases hb : v.ownBlock with
    | none => exact .inl rfl
    | some b =>
      right
      intro e
      have := (World.ownsRow.lt h b hb).1
      simp only [Option.some.injEq] at e
      omega)
theorem cell_keep {w w' : World} {b p : Nat} {x : Value} (h : w.cell? ⟨b, p, none⟩ = some x) (hb : Below w.heap.size w w') : w'.cell? ⟨b, p, none⟩ = some x := (hb.cell (World.block_lt_of_cell? w _ h)).trans h
theorem grown_cell {w w' : World} {b p g : Nat} {x : Value} (h : w.cell? ⟨b, p, none⟩ = some x) (hg : w.grownBy w' (some g)) (hne : b ≠ g) : w'.cell? ⟨b, p, none⟩ = some x := by
  have hb := hg.block b (World.block_lt_of_cell? w _ h) (by simpa using hne)
  unfold World.cell? at h ⊢
  rw [hb]
  exact h
theorem own_first {w : World} {lo cl : Nat} {al : Option Addr} {xs : List ByteArray} (h : OwnT w lo (.slice al xs.length cl) xs) (h0 : 0 < xs.length) : ∃ bl, al = some ⟨bl, 0, none⟩ ∧ w.cell? ⟨bl, 0, none⟩ = some (.string (xs.getD 0 ⟨#[]⟩)) := by
  rcases h.2 with ⟨_, hn⟩ | ⟨g, cap, cur, e, _⟩
  · omega
  · simp only [Value.slice.injEq] at e
    obtain ⟨rfl, _, rfl⟩ := e
    refine ⟨g, rfl, ?_⟩
    rw [World.ownsRow.cellAt h 0 (by omega), List.getElem?_map, List.getElem?_eq_getElem h0, List.getD_eq_getElem?_getD, List.getElem?_eq_getElem h0]
    rfl
theorem own_ne {w : World} {g bl n cl : Nat} {xs : List Value} (h : w.ownsRow (g + 1) 9 1 (.slice (some ⟨bl, 0, none⟩) n cl) n xs) : bl ≠ g := by
  have := (World.ownsRow.lt h bl rfl).1
  omega
theorem CurS.step9 {w w' : World} {g k : Nat} {cv : Value} (h : CurS w g cv k) (hb : Below w.heap.size w w') : CurS w' g cv k := CurS.made h ⟨hb.os, hb.tape, hb.output, hb.size, fun k hk _ => hb.block k hk⟩
/-- A row of the call's own is written: the cursor stays, its code is older. -/
theorem CurS.away {w0 w w' : World} {n k : Nat} {cv v : Value} {xs : List Value} (h : CurS w w0.heap.size cv k) (ho : w.ownsRow (w0.heap.size + 1) 9 1 v n xs) (hg : w.grownBy w' v.ownBlock) (hr : RdB w0 cv) (hb : Below w0.heap.size w0 w') : CurS w' w0.heap.size cv k := by
  obtain ⟨n', s, hn, hh⟩ := h.at_
  have hlt : w0.heap.size < w.heap.size := (Array.getElem?_eq_some_iff.1 hh).1
  have hne : some w0.heap.size ≠ v.ownBlock := fun e => by have := (World.ownsRow.lt ho _ e.symm).1; omega
  refine ⟨⟨n', s, hn, by rw [hg.block _ hlt hne]; exact hh⟩, fun w2 h2 => ?_⟩
  exact hr.below (hb.grown h2 hb.size (fun k hk => by cases hk; exact Nat.le_refl _))
/-- Sizes of drawn texts. -/
def Sz9 (xs : List ByteArray) : Prop := (0 < xs.length → (xs.getD 0 ⟨#[]⟩).size ≤ 301) ∧ ∀ i, i < xs.length → (xs.getD i ⟨#[]⟩).size ≤ 305
theorem Sz9.nil : Sz9 [] := ⟨fun h => by simp at h, fun i h => by simp at h⟩
theorem Sz9.snoc {xs : List ByteArray} {s : ByteArray} (h : Sz9 xs) (h1 : xs.length = 0 → s.size ≤ 301) (h2 : s.size ≤ 305) : Sz9 (xs ++ [s]) := by
  have gl : ∀ i, i < xs.length → (xs ++ [s]).getD i ⟨#[]⟩ = xs.getD i ⟨#[]⟩ := fun i hi => by
    simp only [List.getD_eq_getElem?_getD]; rw [List.getElem?_append_left hi]
  have gr : (xs ++ [s]).getD xs.length ⟨#[]⟩ = s := by
    simp only [List.getD_eq_getElem?_getD]; rw [List.getElem?_append_right (Nat.le_refl _), Nat.sub_self]; rfl
  refine ⟨fun _ => ?_, fun i hi => ?_⟩
  · by_cases h0 : xs.length = 0
    · have : (xs ++ [s]).getD 0 ⟨#[]⟩ = s := by rw [h0] at gr; exact gr
      rw [this]; exact h1 h0
    · rw [gl 0 (by omega)]; exact h.1 (by omega)
  · rw [List.length_append, List.length_singleton] at hi
    by_cases hx : i < xs.length
    · rw [gl i hx]; exact h.2 i hx
    · obtain rfl : i = xs.length := by omega
      rw [gr]; exact h2

set_option linter.unusedSimpArgs false in
set_option maxRecDepth 100000 in
set_option maxHeartbeats 6400000 in
theorem drawDedupAll_calls (cv : Value) (w : World) (h : RdB w cv) :
    Calls Try.prog 13 #[cv] w fun e w' => ∃ v xs, e = .returned v ∧ OwnT w' (w.heap.size + 1) v xs ∧ xs.length ≤ 9 ∧ Sz9 xs ∧ Below w.heap.size w w' := by
  have C0 := hide (cur_new h)
  have RB := hide h
  obtain ⟨a0, cap0, zs, rfl, _, _, _⟩ := h
  have G0 : Hid ((w.alloc (.cells #[.slice a0 zs.length cap0, .int .i64 0, .int .u64 0] 77)).grownBy (w.alloc (.cells #[.slice a0 zs.length cap0, .int .i64 0, .int .u64 0] 77)) (some w.heap.size)) := World.grownBy.refl _ _
  go_enter Try.func13, Try.ntmps13
  go_wp2_with fail
  refine (pick_calls w.heap.size _ 0 4 _ C0.out (by omega) (by omega) (by omega)).mono ?_
  rintro e w1 ⟨r1, hr1, rfl, hc1, hg1⟩
  have C1 := hide hc1
  have G1 := hide hg1
  clear hc1 hg1 C0
  go_wp2_with fail
  refine (one_calls w.heap.size _ 2 20 _ C1.out (by omega) (by omega) (by omega)).mono ?_
  rintro e w2 ⟨b, rfl, hc2, hg2⟩
  have C2 := hide hc2
  have G2 := hide (grown_trans G1.out hg2)
  clear hc2 hg2 C1 G1
  cases b with
  | true =>
    go_wp2_with fail
    refine (pick_calls w.heap.size _ 4 2 _ C2.out (by omega) (by omega) (by omega)).mono ?_
    rintro e w3 ⟨r3, hr3, rfl, hc3, hg3⟩
    have C3 := hide (hc3.mono (k' := 6) (by omega))
    have G3 := hide (grown_trans G2.out hg3)
    clear hc3 hg3 C2 G2
    obtain ⟨N, hN⟩ : ∃ N : Nat, N = 8 + r3 := ⟨_, rfl⟩
    have hN9 : N ≤ 9 := by omega
    have eN : (8 : Int) + (r3 : Int) = (N : Int) := by omega
    clear hN
    go_wp2
    go_loopw [4, 5] (fun vl vn wr => ∃ (m : Nat) (xs : List ByteArray), m + xs.length = N ∧ vn = .int .i64 m ∧ OwnT wr (w.heap.size + 1) vl xs ∧ Sz9 xs ∧ CurS wr w.heap.size (.slice a0 zs.length cap0) (6 + 40 * xs.length) ∧ Below w.heap.size w wr) (fun _ vn _ => (intOf vn).toNat)
    case atStart => exact ⟨N, [], by simp, rfl, World.ownsRow_nil _ _ _ _, Sz9.nil, C3.out, cur_below G3.out⟩
    case round =>
      obtain ⟨m, xs, hmx, rfl, ho, hs, hc, hb⟩ := hrel
      have MX := hide hmx
      have hm9 : m ≤ 9 := by omega
      have hx9 : xs.length ≤ 9 := by omega
      have O := hide ho
      have SZ := hide hs
      have C := hide hc
      have B := hide hb
      clear hmx ho hs hc hb
      by_cases hm0 : 0 < m
      case neg =>
        obtain rfl : m = 0 := by omega
        go_wp2
        go_ret
        exact ⟨_, xs, rfl, O.out, hx9, SZ.out, B.out⟩
      have hm0' : (0 : Int) < (m : Int) := by omega
      obtain ⟨al, cl, rfl⟩ := row_slice9 O.out
      go_wp2_with fail
      refine (long9_calls w.heap.size _ (6 + 40 * xs.length) _ C.out (by omega)).mono ?_
      rintro e w4 ⟨s4, hs4, rfl, hc4, hg4⟩
      have C4 := hide hc4
      have O4 := hide (OwnT.cur O.out hg4)
      have B4 := hide (B.out.grown hg4 B.out.size (fun k hk => by cases hk; exact Nat.le_refl _))
      clear hc4 hg4 C O B
      by_cases hx0 : 0 < xs.length
      case neg =>
        have hx0' : ¬ (0 : Int) < (xs.length : Int) := by omega
        have hb5 := below_box w4 (.cells #[.string s4] 9)
        have O5 := hide (rowsBelow O4.out hb5)
        have B5 := hide (B4.out.trans (hb5.mono B4.out.size))
        have C5 := hide (C4.out.alloc (.cells #[.string s4] 9))
        have c5 : (w4.alloc (.cells #[.string s4] 9)).cell? ⟨w4.heap.size, 0, none⟩ = some (.string s4) := World.cell?_alloc_at _ _ _ _ (by simp)
        have CC := hide c5
        have S5 : Hid (w.heap.size < w4.heap.size) := curS_lt C4.out
        clear hb5 c5
        go_wp2_with (refine wpList_append_text1 rfl _ _ rfl (w.heap.size + 1) _ xs.length xs s4 rfl O5.out w4.heap.size rfl CC.out (by omega) (by have := S5.out; simp; omega) ?_)
        intro v6 w6 o6 g6
        have O6 := hide o6
        have B6 := hide (B5.out.grown g6 B5.out.size (fun k hk => by have := (World.ownsRow.lt O5.out k hk).1; omega))
        have C6 := hide (CurS.away C5.out O5.out g6 RB.out B6.out)
        obtain ⟨L6, hL6⟩ : ∃ L, L = xs ++ [s4] := ⟨_, rfl⟩
        have SZ6 : Hid (Sz9 L6) := by rw [hL6]; exact SZ.out.snoc (fun _ => hs4) (by omega)
        have LL6 : L6.length = xs.length + 1 := by rw [hL6]; simp
        rw [← hL6] at O6
        clear o6 g6 hL6 O5 B5 C5 CC
        go_wp2
        go_roundw
        case rel => exact ⟨m - 1, L6, by have := MX.out; omega, int_eq (by omega), O6.out, SZ6.out, C6.out.mono (by omega), B6.out⟩
        case measure => simp [intOf]; omega
      have hx0' : (0 : Int) < (xs.length : Int) := by omega
      go_wp2_with fail
      refine (one_calls w.heap.size _ (6 + 40 * xs.length + 30) 2 _ C4.out (by omega) (by omega) (by omega)).mono ?_
      rintro e w5 ⟨b5, rfl, hc5, hg5⟩
      have C7 := hide hc5
      have O7 := hide (OwnT.cur O4.out hg5)
      have B7 := hide (B4.out.grown hg5 B4.out.size (fun k hk => by cases hk; exact Nat.le_refl _))
      clear hc5 hg5 C4 O4 B4
      cases b5 with
      | false =>
        have hb5 := below_box w5 (.cells #[.string s4] 9)
        have O5 := hide (rowsBelow O7.out hb5)
        have B5 := hide (B7.out.trans (hb5.mono B7.out.size))
        have C5 := hide (C7.out.alloc (.cells #[.string s4] 9))
        have c5 : (w5.alloc (.cells #[.string s4] 9)).cell? ⟨w5.heap.size, 0, none⟩ = some (.string s4) := World.cell?_alloc_at _ _ _ _ (by simp)
        have CC := hide c5
        have S5 : Hid (w.heap.size < w5.heap.size) := curS_lt C7.out
        clear hb5 c5
        go_wp2_with (refine wpList_append_text1 rfl _ _ rfl (w.heap.size + 1) _ xs.length xs s4 rfl O5.out w5.heap.size rfl CC.out (by omega) (by have := S5.out; simp; omega) ?_)
        intro v6 w6 o6 g6
        have O6 := hide o6
        have B6 := hide (B5.out.grown g6 B5.out.size (fun k hk => by have := (World.ownsRow.lt O5.out k hk).1; omega))
        have C6 := hide (CurS.away C5.out O5.out g6 RB.out B6.out)
        obtain ⟨L6, hL6⟩ : ∃ L, L = xs ++ [s4] := ⟨_, rfl⟩
        have SZ6 : Hid (Sz9 L6) := by rw [hL6]; exact SZ.out.snoc (fun _ => hs4) (by omega)
        have LL6 : L6.length = xs.length + 1 := by rw [hL6]; simp
        rw [← hL6] at O6
        clear o6 g6 hL6 O5 B5 C5 CC
        go_wp2
        go_roundw
        case rel => exact ⟨m - 1, L6, by have := MX.out; omega, int_eq (by omega), O6.out, SZ6.out, C6.out.mono (by omega), B6.out⟩
        case measure => simp [intOf]; omega
      | true =>
        obtain ⟨bl, eal, cx⟩ := own_first O7.out hx0
        subst eal
        obtain ⟨x0, hx00⟩ : ∃ x, x = xs.getD 0 ⟨#[]⟩ := ⟨_, rfl⟩
        have hx01 : x0.size ≤ 301 := by rw [hx00]; exact SZ.out.1 hx0
        rw [← hx00] at cx
        have CX := hide cx
        clear hx00 cx
        go_upto_region 10 with fail
        refine wp_region_noPanic ?_
        refine wp_region_held_drew (S := fun w' => w'.cell? ⟨bl, 0, none⟩ = some (.string x0)) (by kernel_rfl) (cell_keep CX.out (Below.refl _ _).drew) (fun hHeld => ?_)
        have OV := hide (rowsBelow O7.out (Below.refl _ _).drew)
        have BV := hide (B7.out.trans ((Below.refl w5.heap.size w5).drew.mono B7.out.size))
        have CV := hide (CurS.step9 C7.out (Below.refl _ _).drew)
        clear O7 B7 C7
        generalize World.drew _ = V0 at *
        refine wpAnyH_take (i := 0) (v := ?v1) rfl (by kernel_rfl) (by kernel_rfl) (by kernel_rfl) (fun _ _ _ h => h) (Or.inl ⟨by rfl, ?hy1⟩) (by assumption) ?rest1
        case hy1 => (intro w' hSw; dsimp only [List.getElem_toArray, List.getElem_cons_zero, List.getElem_cons_succ] at hSw ⊢; go_simp; try (with_reducible rfl))
        try simp only [Act.put, List.getElem_toArray, List.getElem_cons_zero, List.getElem_cons_succ, List.setIfInBounds_toArray, List.set_cons_zero, List.set_cons_succ]
        refine wpAnyH_take (i := 3) (v := ?v2) rfl (by kernel_rfl) (by kernel_rfl) (by kernel_rfl) (fun _ _ _ h => h) (Or.inl ⟨by rfl, ?hy2⟩) (by assumption) ?rest2
        case hy2 => (intro w' hSw; dsimp only [List.getElem_toArray, List.getElem_cons_zero, List.getElem_cons_succ] at hSw ⊢; go_simp; try (with_reducible rfl))
        try simp only [Act.put, List.getElem_toArray, List.getElem_cons_zero, List.getElem_cons_succ, List.setIfInBounds_toArray, List.set_cons_zero, List.set_cons_succ]
        refine wpAnyH_take (i := 4) (v := ?v3) rfl (by kernel_rfl) (by kernel_rfl) (by kernel_rfl) (fun _ _ _ h => h) (Or.inl ⟨by rfl, ?hy3⟩) (by assumption) ?rest3
        case hy3 => (intro w' hSw; dsimp only [List.getElem_toArray, List.getElem_cons_zero, List.getElem_cons_succ] at hSw ⊢; go_simp; try (with_reducible rfl))
        try simp only [Act.put, List.getElem_toArray, List.getElem_cons_zero, List.getElem_cons_succ, List.setIfInBounds_toArray, List.set_cons_zero, List.set_cons_succ]
        refine wpAnyH_take (i := 5) (v := ?v4) rfl (by kernel_rfl) (by kernel_rfl) (by kernel_rfl) (fun _ _ _ h => h) (Or.inl ⟨by rfl, ?hy4⟩) (by assumption) ?rest4
        case hy4 => (intro w' hSw; dsimp only [List.getElem_toArray, List.getElem_cons_zero, List.getElem_cons_succ] at hSw ⊢; go_simp; try (with_reducible rfl))
        try simp only [Act.put, List.getElem_toArray, List.getElem_cons_zero, List.getElem_cons_succ, List.setIfInBounds_toArray, List.set_cons_zero, List.set_cons_succ]
        refine wpAnyH_ready (rs := [1]) (by kernel_rfl) (by simp) ?_
        refine (AllReadyH.cons rfl (fun K hK => ?_) AllReadyH.nil)
        dsimp only [List.getElem_toArray, List.getElem_cons_zero, List.getElem_cons_succ]
        go_simp
        have CW := CV.out.alloc (.cells #[.string ⟨#[110, 101, 119, 32]⟩, .string ⟨#[]⟩] 9)
        have bb := below_box V0 (.cells #[.string ⟨#[110, 101, 119, 32]⟩, .string ⟨#[]⟩] 9)
        have rs := rdS_build (w := V0) (l := [⟨#[110, 101, 119, 32]⟩, ⟨#[]⟩]) (g := w.heap.size) (curS_lt CV.out)
        have c8 := cell_keep hHeld bb
        have RS := hide rs
        have C8 := hide CW
        have O8 := hide (rowsBelow OV.out bb)
        have B8 := hide (BV.out.trans (bb.mono BV.out.size))
        clear CW bb rs OV BV CV hHeld
        refine hK.out _ _ (c8) (fun hHeld => ?_)
        clear hK K
        try simp only [Act.put, List.getElem_toArray, List.getElem_cons_zero, List.getElem_cons_succ, List.setIfInBounds_toArray, List.set_cons_zero, List.set_cons_succ]
        refine wpAnyH_ready (rs := [2]) (by kernel_rfl) (by simp) ?_
        refine (AllReadyH.cons rfl (fun K hK => ?_) AllReadyH.nil)
        dsimp only [List.getElem_toArray, List.getElem_cons_zero, List.getElem_cons_succ]
        go_simp
        refine (of_calls w.heap.size _ _ [⟨#[110, 101, 119, 32]⟩, ⟨#[]⟩] _ 4 _ C8.out (by omega) RS.out (by decide) (by decide) (by decide)).mono ?_
        rintro e' uA ⟨t9, ht9, rfl, hc9, hg9⟩
        have C9 := hide hc9
        have O9 := hide (OwnT.cur O8.out hg9)
        have B9 := hide (B8.out.grown hg9 B8.out.size (fun k hk => by cases hk; exact Nat.le_refl _))
        obtain ⟨bl9, e9, c9⟩ := own_first O9.out hx0
        obtain rfl : bl = bl9 := by simpa using e9
        have c10 := grown_cell hHeld hg9 (own_ne O8.out)
        clear hc9 hg9 C8 O8 B8 RS hHeld e9 c9
        refine hK.out _ _ (c10) (fun hHeld => ?_)
        clear hK K
        try simp only [Act.put, List.getElem_toArray, List.getElem_cons_zero, List.getElem_cons_succ, List.setIfInBounds_toArray, List.set_cons_zero, List.set_cons_succ]
        refine wpAnyH_ready (rs := [6]) (by kernel_rfl) (by simp) ?_
        refine (AllReadyH.cons rfl (fun K hK => ?_) AllReadyH.nil)
        have hadd := run_string_add_sum (P := Try.prog) (w := uA) t9 x0 (by omega)
        dsimp only [List.getElem_toArray, List.getElem_cons_zero, List.getElem_cons_succ]
        go_simp
        clear hadd hHeld
        refine hK.out _ _ (c10) (fun hHeld => ?_)
        clear hK K
        try simp only [Act.put, List.getElem_toArray, List.getElem_cons_zero, List.getElem_cons_succ, List.setIfInBounds_toArray, List.set_cons_zero, List.set_cons_succ]
        refine wpAnyH_take (i := 7) (v := ?v5) rfl (by kernel_rfl) (by kernel_rfl) (by kernel_rfl) (fun _ _ _ h => h) (Or.inl ⟨by rfl, ?hy5⟩) (by assumption) ?rest5
        case hy5 => (intro w' hSw; dsimp only [List.getElem_toArray, List.getElem_cons_zero, List.getElem_cons_succ] at hSw ⊢; go_simp; try (with_reducible rfl))
        try simp only [Act.put, List.getElem_toArray, List.getElem_cons_zero, List.getElem_cons_succ, List.setIfInBounds_toArray, List.set_cons_zero, List.set_cons_succ]
        refine wpAnyH_done (by kernel_rfl) ?_ _
        refine NoPanic.normal ?_
        clear hHeld c10
        have hb5 := below_box uA (.cells #[.string (t9 ++ x0)] 9)
        have O5 := hide (rowsBelow O9.out hb5)
        have B5 := hide (B9.out.trans (hb5.mono B9.out.size))
        have C5 := hide (C9.out.alloc (.cells #[.string (t9 ++ x0)] 9))
        have c5 : (uA.alloc (.cells #[.string (t9 ++ x0)] 9)).cell? ⟨uA.heap.size, 0, none⟩ = some (.string (t9 ++ x0)) := World.cell?_alloc_at _ _ _ _ (by simp)
        have CC := hide c5
        have S5 : Hid (w.heap.size < uA.heap.size) := curS_lt C9.out
        clear hb5 c5
        go_wp2_with (refine wpList_append_text1 rfl _ _ rfl (w.heap.size + 1) _ xs.length xs (t9 ++ x0) rfl O5.out uA.heap.size rfl CC.out (by omega) (by have := S5.out; simp; omega) ?_)
        intro v6 w6 o6 g6
        have O6 := hide o6
        have B6 := hide (B5.out.grown g6 B5.out.size (fun k hk => by have := (World.ownsRow.lt O5.out k hk).1; omega))
        have C6 := hide (CurS.away C5.out O5.out g6 RB.out B6.out)
        obtain ⟨L6, hL6⟩ : ∃ L, L = xs ++ [(t9 ++ x0)] := ⟨_, rfl⟩
        have SZ6 : Hid (Sz9 L6) := by rw [hL6]; exact SZ.out.snoc (fun h0 => by omega) (by rw [ByteArray.size_append]; omega)
        have LL6 : L6.length = xs.length + 1 := by rw [hL6]; simp
        rw [← hL6] at O6
        clear o6 g6 hL6 O5 B5 C5 CC
        go_wp2
        go_roundw
        case rel => exact ⟨m - 1, L6, by have := MX.out; omega, int_eq (by omega), O6.out, SZ6.out, C6.out.mono (by omega), B6.out⟩
        case measure => simp [intOf]; omega
  | false =>
    obtain ⟨w3, rfl⟩ : ∃ u, u = w2 := ⟨_, rfl⟩
    have C3 := hide (C2.out.mono (k' := 6) (by omega))
    have G3 := hide G2.out
    obtain ⟨N, rfl⟩ : ∃ N : Nat, N = r1 := ⟨_, rfl⟩
    have hN9 : N ≤ 9 := by omega
    clear C2 G2
    go_wp2
    go_loopw [4, 5] (fun vl vn wr => ∃ (m : Nat) (xs : List ByteArray), m + xs.length = N ∧ vn = .int .i64 m ∧ OwnT wr (w.heap.size + 1) vl xs ∧ Sz9 xs ∧ CurS wr w.heap.size (.slice a0 zs.length cap0) (6 + 40 * xs.length) ∧ Below w.heap.size w wr) (fun _ vn _ => (intOf vn).toNat)
    case atStart => exact ⟨N, [], by simp, rfl, World.ownsRow_nil _ _ _ _, Sz9.nil, C3.out, cur_below G3.out⟩
    case round =>
      obtain ⟨m, xs, hmx, rfl, ho, hs, hc, hb⟩ := hrel
      have MX := hide hmx
      have hm9 : m ≤ 9 := by omega
      have hx9 : xs.length ≤ 9 := by omega
      have O := hide ho
      have SZ := hide hs
      have C := hide hc
      have B := hide hb
      clear hmx ho hs hc hb
      by_cases hm0 : 0 < m
      case neg =>
        obtain rfl : m = 0 := by omega
        go_wp2
        go_ret
        exact ⟨_, xs, rfl, O.out, hx9, SZ.out, B.out⟩
      have hm0' : (0 : Int) < (m : Int) := by omega
      obtain ⟨al, cl, rfl⟩ := row_slice9 O.out
      go_wp2_with fail
      refine (long9_calls w.heap.size _ (6 + 40 * xs.length) _ C.out (by omega)).mono ?_
      rintro e w4 ⟨s4, hs4, rfl, hc4, hg4⟩
      have C4 := hide hc4
      have O4 := hide (OwnT.cur O.out hg4)
      have B4 := hide (B.out.grown hg4 B.out.size (fun k hk => by cases hk; exact Nat.le_refl _))
      clear hc4 hg4 C O B
      by_cases hx0 : 0 < xs.length
      case neg =>
        have hx0' : ¬ (0 : Int) < (xs.length : Int) := by omega
        have hb5 := below_box w4 (.cells #[.string s4] 9)
        have O5 := hide (rowsBelow O4.out hb5)
        have B5 := hide (B4.out.trans (hb5.mono B4.out.size))
        have C5 := hide (C4.out.alloc (.cells #[.string s4] 9))
        have c5 : (w4.alloc (.cells #[.string s4] 9)).cell? ⟨w4.heap.size, 0, none⟩ = some (.string s4) := World.cell?_alloc_at _ _ _ _ (by simp)
        have CC := hide c5
        have S5 : Hid (w.heap.size < w4.heap.size) := curS_lt C4.out
        clear hb5 c5
        go_wp2_with (refine wpList_append_text1 rfl _ _ rfl (w.heap.size + 1) _ xs.length xs s4 rfl O5.out w4.heap.size rfl CC.out (by omega) (by have := S5.out; simp; omega) ?_)
        intro v6 w6 o6 g6
        have O6 := hide o6
        have B6 := hide (B5.out.grown g6 B5.out.size (fun k hk => by have := (World.ownsRow.lt O5.out k hk).1; omega))
        have C6 := hide (CurS.away C5.out O5.out g6 RB.out B6.out)
        obtain ⟨L6, hL6⟩ : ∃ L, L = xs ++ [s4] := ⟨_, rfl⟩
        have SZ6 : Hid (Sz9 L6) := by rw [hL6]; exact SZ.out.snoc (fun _ => hs4) (by omega)
        have LL6 : L6.length = xs.length + 1 := by rw [hL6]; simp
        rw [← hL6] at O6
        clear o6 g6 hL6 O5 B5 C5 CC
        go_wp2
        go_roundw
        case rel => exact ⟨m - 1, L6, by have := MX.out; omega, int_eq (by omega), O6.out, SZ6.out, C6.out.mono (by omega), B6.out⟩
        case measure => simp [intOf]; omega
      have hx0' : (0 : Int) < (xs.length : Int) := by omega
      go_wp2_with fail
      refine (one_calls w.heap.size _ (6 + 40 * xs.length + 30) 2 _ C4.out (by omega) (by omega) (by omega)).mono ?_
      rintro e w5 ⟨b5, rfl, hc5, hg5⟩
      have C7 := hide hc5
      have O7 := hide (OwnT.cur O4.out hg5)
      have B7 := hide (B4.out.grown hg5 B4.out.size (fun k hk => by cases hk; exact Nat.le_refl _))
      clear hc5 hg5 C4 O4 B4
      cases b5 with
      | false =>
        have hb5 := below_box w5 (.cells #[.string s4] 9)
        have O5 := hide (rowsBelow O7.out hb5)
        have B5 := hide (B7.out.trans (hb5.mono B7.out.size))
        have C5 := hide (C7.out.alloc (.cells #[.string s4] 9))
        have c5 : (w5.alloc (.cells #[.string s4] 9)).cell? ⟨w5.heap.size, 0, none⟩ = some (.string s4) := World.cell?_alloc_at _ _ _ _ (by simp)
        have CC := hide c5
        have S5 : Hid (w.heap.size < w5.heap.size) := curS_lt C7.out
        clear hb5 c5
        go_wp2_with (refine wpList_append_text1 rfl _ _ rfl (w.heap.size + 1) _ xs.length xs s4 rfl O5.out w5.heap.size rfl CC.out (by omega) (by have := S5.out; simp; omega) ?_)
        intro v6 w6 o6 g6
        have O6 := hide o6
        have B6 := hide (B5.out.grown g6 B5.out.size (fun k hk => by have := (World.ownsRow.lt O5.out k hk).1; omega))
        have C6 := hide (CurS.away C5.out O5.out g6 RB.out B6.out)
        obtain ⟨L6, hL6⟩ : ∃ L, L = xs ++ [s4] := ⟨_, rfl⟩
        have SZ6 : Hid (Sz9 L6) := by rw [hL6]; exact SZ.out.snoc (fun _ => hs4) (by omega)
        have LL6 : L6.length = xs.length + 1 := by rw [hL6]; simp
        rw [← hL6] at O6
        clear o6 g6 hL6 O5 B5 C5 CC
        go_wp2
        go_roundw
        case rel => exact ⟨m - 1, L6, by have := MX.out; omega, int_eq (by omega), O6.out, SZ6.out, C6.out.mono (by omega), B6.out⟩
        case measure => simp [intOf]; omega
      | true =>
        obtain ⟨bl, eal, cx⟩ := own_first O7.out hx0
        subst eal
        obtain ⟨x0, hx00⟩ : ∃ x, x = xs.getD 0 ⟨#[]⟩ := ⟨_, rfl⟩
        have hx01 : x0.size ≤ 301 := by rw [hx00]; exact SZ.out.1 hx0
        rw [← hx00] at cx
        have CX := hide cx
        clear hx00 cx
        go_upto_region 10 with fail
        refine wp_region_noPanic ?_
        refine wp_region_held_drew (S := fun w' => w'.cell? ⟨bl, 0, none⟩ = some (.string x0)) (by kernel_rfl) (cell_keep CX.out (Below.refl _ _).drew) (fun hHeld => ?_)
        have OV := hide (rowsBelow O7.out (Below.refl _ _).drew)
        have BV := hide (B7.out.trans ((Below.refl w5.heap.size w5).drew.mono B7.out.size))
        have CV := hide (CurS.step9 C7.out (Below.refl _ _).drew)
        clear O7 B7 C7
        generalize World.drew _ = V0 at *
        refine wpAnyH_take (i := 0) (v := ?v6) rfl (by kernel_rfl) (by kernel_rfl) (by kernel_rfl) (fun _ _ _ h => h) (Or.inl ⟨by rfl, ?hy6⟩) (by assumption) ?rest6
        case hy6 => (intro w' hSw; dsimp only [List.getElem_toArray, List.getElem_cons_zero, List.getElem_cons_succ] at hSw ⊢; go_simp; try (with_reducible rfl))
        try simp only [Act.put, List.getElem_toArray, List.getElem_cons_zero, List.getElem_cons_succ, List.setIfInBounds_toArray, List.set_cons_zero, List.set_cons_succ]
        refine wpAnyH_take (i := 3) (v := ?v7) rfl (by kernel_rfl) (by kernel_rfl) (by kernel_rfl) (fun _ _ _ h => h) (Or.inl ⟨by rfl, ?hy7⟩) (by assumption) ?rest7
        case hy7 => (intro w' hSw; dsimp only [List.getElem_toArray, List.getElem_cons_zero, List.getElem_cons_succ] at hSw ⊢; go_simp; try (with_reducible rfl))
        try simp only [Act.put, List.getElem_toArray, List.getElem_cons_zero, List.getElem_cons_succ, List.setIfInBounds_toArray, List.set_cons_zero, List.set_cons_succ]
        refine wpAnyH_take (i := 4) (v := ?v8) rfl (by kernel_rfl) (by kernel_rfl) (by kernel_rfl) (fun _ _ _ h => h) (Or.inl ⟨by rfl, ?hy8⟩) (by assumption) ?rest8
        case hy8 => (intro w' hSw; dsimp only [List.getElem_toArray, List.getElem_cons_zero, List.getElem_cons_succ] at hSw ⊢; go_simp; try (with_reducible rfl))
        try simp only [Act.put, List.getElem_toArray, List.getElem_cons_zero, List.getElem_cons_succ, List.setIfInBounds_toArray, List.set_cons_zero, List.set_cons_succ]
        refine wpAnyH_take (i := 5) (v := ?v9) rfl (by kernel_rfl) (by kernel_rfl) (by kernel_rfl) (fun _ _ _ h => h) (Or.inl ⟨by rfl, ?hy9⟩) (by assumption) ?rest9
        case hy9 => (intro w' hSw; dsimp only [List.getElem_toArray, List.getElem_cons_zero, List.getElem_cons_succ] at hSw ⊢; go_simp; try (with_reducible rfl))
        try simp only [Act.put, List.getElem_toArray, List.getElem_cons_zero, List.getElem_cons_succ, List.setIfInBounds_toArray, List.set_cons_zero, List.set_cons_succ]
        refine wpAnyH_ready (rs := [1]) (by kernel_rfl) (by simp) ?_
        refine (AllReadyH.cons rfl (fun K hK => ?_) AllReadyH.nil)
        dsimp only [List.getElem_toArray, List.getElem_cons_zero, List.getElem_cons_succ]
        go_simp
        have CW := CV.out.alloc (.cells #[.string ⟨#[110, 101, 119, 32]⟩, .string ⟨#[]⟩] 9)
        have bb := below_box V0 (.cells #[.string ⟨#[110, 101, 119, 32]⟩, .string ⟨#[]⟩] 9)
        have rs := rdS_build (w := V0) (l := [⟨#[110, 101, 119, 32]⟩, ⟨#[]⟩]) (g := w.heap.size) (curS_lt CV.out)
        have c8 := cell_keep hHeld bb
        have RS := hide rs
        have C8 := hide CW
        have O8 := hide (rowsBelow OV.out bb)
        have B8 := hide (BV.out.trans (bb.mono BV.out.size))
        clear CW bb rs OV BV CV hHeld
        refine hK.out _ _ (c8) (fun hHeld => ?_)
        clear hK K
        try simp only [Act.put, List.getElem_toArray, List.getElem_cons_zero, List.getElem_cons_succ, List.setIfInBounds_toArray, List.set_cons_zero, List.set_cons_succ]
        refine wpAnyH_ready (rs := [2]) (by kernel_rfl) (by simp) ?_
        refine (AllReadyH.cons rfl (fun K hK => ?_) AllReadyH.nil)
        dsimp only [List.getElem_toArray, List.getElem_cons_zero, List.getElem_cons_succ]
        go_simp
        refine (of_calls w.heap.size _ _ [⟨#[110, 101, 119, 32]⟩, ⟨#[]⟩] _ 4 _ C8.out (by omega) RS.out (by decide) (by decide) (by decide)).mono ?_
        rintro e' uA ⟨t9, ht9, rfl, hc9, hg9⟩
        have C9 := hide hc9
        have O9 := hide (OwnT.cur O8.out hg9)
        have B9 := hide (B8.out.grown hg9 B8.out.size (fun k hk => by cases hk; exact Nat.le_refl _))
        obtain ⟨bl9, e9, c9⟩ := own_first O9.out hx0
        obtain rfl : bl = bl9 := by simpa using e9
        have c10 := grown_cell hHeld hg9 (own_ne O8.out)
        clear hc9 hg9 C8 O8 B8 RS hHeld e9 c9
        refine hK.out _ _ (c10) (fun hHeld => ?_)
        clear hK K
        try simp only [Act.put, List.getElem_toArray, List.getElem_cons_zero, List.getElem_cons_succ, List.setIfInBounds_toArray, List.set_cons_zero, List.set_cons_succ]
        refine wpAnyH_ready (rs := [6]) (by kernel_rfl) (by simp) ?_
        refine (AllReadyH.cons rfl (fun K hK => ?_) AllReadyH.nil)
        have hadd := run_string_add_sum (P := Try.prog) (w := uA) t9 x0 (by omega)
        dsimp only [List.getElem_toArray, List.getElem_cons_zero, List.getElem_cons_succ]
        go_simp
        clear hadd hHeld
        refine hK.out _ _ (c10) (fun hHeld => ?_)
        clear hK K
        try simp only [Act.put, List.getElem_toArray, List.getElem_cons_zero, List.getElem_cons_succ, List.setIfInBounds_toArray, List.set_cons_zero, List.set_cons_succ]
        refine wpAnyH_take (i := 7) (v := ?v10) rfl (by kernel_rfl) (by kernel_rfl) (by kernel_rfl) (fun _ _ _ h => h) (Or.inl ⟨by rfl, ?hy10⟩) (by assumption) ?rest10
        case hy10 => (intro w' hSw; dsimp only [List.getElem_toArray, List.getElem_cons_zero, List.getElem_cons_succ] at hSw ⊢; go_simp; try (with_reducible rfl))
        try simp only [Act.put, List.getElem_toArray, List.getElem_cons_zero, List.getElem_cons_succ, List.setIfInBounds_toArray, List.set_cons_zero, List.set_cons_succ]
        refine wpAnyH_done (by kernel_rfl) ?_ _
        refine NoPanic.normal ?_
        clear hHeld c10
        have hb5 := below_box uA (.cells #[.string (t9 ++ x0)] 9)
        have O5 := hide (rowsBelow O9.out hb5)
        have B5 := hide (B9.out.trans (hb5.mono B9.out.size))
        have C5 := hide (C9.out.alloc (.cells #[.string (t9 ++ x0)] 9))
        have c5 : (uA.alloc (.cells #[.string (t9 ++ x0)] 9)).cell? ⟨uA.heap.size, 0, none⟩ = some (.string (t9 ++ x0)) := World.cell?_alloc_at _ _ _ _ (by simp)
        have CC := hide c5
        have S5 : Hid (w.heap.size < uA.heap.size) := curS_lt C9.out
        clear hb5 c5
        go_wp2_with (refine wpList_append_text1 rfl _ _ rfl (w.heap.size + 1) _ xs.length xs (t9 ++ x0) rfl O5.out uA.heap.size rfl CC.out (by omega) (by have := S5.out; simp; omega) ?_)
        intro v6 w6 o6 g6
        have O6 := hide o6
        have B6 := hide (B5.out.grown g6 B5.out.size (fun k hk => by have := (World.ownsRow.lt O5.out k hk).1; omega))
        have C6 := hide (CurS.away C5.out O5.out g6 RB.out B6.out)
        obtain ⟨L6, hL6⟩ : ∃ L, L = xs ++ [(t9 ++ x0)] := ⟨_, rfl⟩
        have SZ6 : Hid (Sz9 L6) := by rw [hL6]; exact SZ.out.snoc (fun h0 => by omega) (by rw [ByteArray.size_append]; omega)
        have LL6 : L6.length = xs.length + 1 := by rw [hL6]; simp
        rw [← hL6] at O6
        clear o6 g6 hL6 O5 B5 C5 CC
        go_wp2
        go_roundw
        case rel => exact ⟨m - 1, L6, by have := MX.out; omega, int_eq (by omega), O6.out, SZ6.out, C6.out.mono (by omega), B6.out⟩
        case measure => simp [intOf]; omega

set_option maxRecDepth 100000 in
set_option maxHeartbeats 1600000 in
theorem drawJoinChunks_calls (cv : Value) (w : World) (h : RdB w cv) :
    Calls Try.prog 23 #[cv] w fun e w' => ∃ v xs, e = .returned v ∧ OwnT w' (w.heap.size + 1) v xs ∧ xs.length ≤ 400 ∧ (∀ i, i < xs.length → (xs.getD i ⟨#[]⟩).size ≤ 301) ∧ Below w.heap.size w w' := by
  have C0 := hide (cur_new h)
  obtain ⟨a0, cap0, zs, rfl, _, _, _⟩ := h
  go_enter Try.func23, Try.ntmps23
  go_wp2_with fail
  refine (long9_calls w.heap.size _ 0 _ C0.out (by omega)).mono ?_
  rintro e w1 ⟨s, hs, rfl, hc1, hg1⟩
  have C1 := hide hc1
  have G1 := hide hg1
  clear hc1 hg1 C0
  go_wp2_with fail
  refine (sChunksOf_calls s _ (by omega)).mono ?_
  rintro e w2 ⟨v2, rfl, o2, b2⟩
  have lg : w.heap.size < w1.heap.size := curS_lt C1.out
  have hcs : (chunksR s).1.length ≤ 301 ∧ ∀ i, i < (chunksR s).1.length → ((chunksR s).1.getD i ⟨#[]⟩).size ≤ 301 := by
    unfold chunksR
    split
    · refine ⟨by have := chunksT_length s; simp only; omega, fun i hi => ?_⟩
      have hm : (chunksT s).getD i ⟨#[]⟩ ∈ chunksT s := by
        rw [List.getD_eq_getElem?_getD, List.getElem?_eq_getElem hi]; exact List.getElem_mem _
      have := chunksT_sizes s _ hm
      simp only at this ⊢
      omega
    · exact ⟨by simp, fun i hi => by simp at hi⟩
  generalize (chunksR s).1 = xs at o2 hcs
  generalize (chunksR s).2 = z
  obtain ⟨a2, c2, rfl⟩ := row_slice9 o2
  have o2' : OwnT w2 (w.heap.size + 1) (.slice a2 xs.length c2) xs := rowsMono o2 (by omega)
  have O2 := hide o2'
  have C2 := hide (CurS.step9 C1.out b2)
  have HC := hide hcs
  have B2 := hide ((cur_below G1.out).trans (b2.mono (cur_below G1.out).size))
  clear o2 o2' b2 lg hcs C1 G1
  go_wp2_with fail
  refine (one_calls w.heap.size _ 30 6 _ C2.out (by omega) (by omega) (by omega)).mono ?_
  rintro e w3 ⟨b, rfl, hc3, hg3⟩
  have C3 := hide hc3
  have O3 := hide (OwnT.cur O2.out hg3)
  have B3 := hide (B2.out.grown hg3 B2.out.size (fun k hk => by cases hk; exact Nat.le_refl _))
  clear hc3 hg3 C2 O2 B2
  cases b with
  | false =>
    go_wp2
    go_ret
    exact ⟨_, xs, rfl, O3.out, by have := HC.out.1; omega, HC.out.2, B3.out⟩
  | true =>
    go_wp2_with fail
    refine (long9_calls w.heap.size _ 32 _ C3.out (by omega)).mono ?_
    rintro e w4 ⟨s4, hs4, rfl, hc4, hg4⟩
    have O4 := hide (OwnT.cur O3.out hg4)
    have B4 := hide (B3.out.grown hg4 B3.out.size (fun k hk => by cases hk; exact Nat.le_refl _))
    have S4 : Hid (w.heap.size < w4.heap.size) := curS_lt hc4
    clear hc4 hg4 C3 O3 B3
    have hb4 := below_box w4 (.cells #[.string s4] 9)
    have O5 := hide (rowsBelow O4.out hb4)
    have B5 := hide (B4.out.trans (hb4.mono B4.out.size))
    have c5 : (w4.alloc (.cells #[.string s4] 9)).cell? ⟨w4.heap.size, 0, none⟩ = some (.string s4) := World.cell?_alloc_at _ _ _ _ (by simp)
    have CC := hide c5
    clear hb4 c5
    go_wp2_with (refine wpList_append_text1 rfl _ _ rfl (w.heap.size + 1) _ xs.length xs s4 rfl O5.out w4.heap.size rfl CC.out (by have := HC.out.1; omega) (by have := S4.out; simp; omega) ?_)
    intro v6 w6 o6 g6
    have O6 := hide o6
    have B6 := hide (B5.out.grown g6 B5.out.size (fun k hk => by have := (World.ownsRow.lt O5.out k hk).1; omega))
    clear o6 g6
    go_wp2
    go_ret
    refine ⟨_, xs ++ [s4], rfl, O6.out, by have := HC.out.1; simp; omega, fun i hi => ?_, B6.out⟩
    rw [List.length_append, List.length_singleton] at hi
    by_cases hx : i < xs.length
    · have : (xs ++ [s4]).getD i ⟨#[]⟩ = xs.getD i ⟨#[]⟩ := by simp only [List.getD_eq_getElem?_getD]; rw [List.getElem?_append_left hx]
      rw [this]; exact HC.out.2 i hx
    · obtain rfl : i = xs.length := by omega
      have : (xs ++ [s4]).getD xs.length ⟨#[]⟩ = s4 := by simp only [List.getD_eq_getElem?_getD]; rw [List.getElem?_append_right (Nat.le_refl _), Nat.sub_self]; rfl
      rw [this]; exact hs4
end Go.Proofs.Ythmijjcddjlebaa

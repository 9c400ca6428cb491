/-
  The model's keys and GoodTable, call by call. Each contract says what it asks.
-/
import Derived.Test.YtehjfjplajimfaaTbg
namespace Go.Proofs.Ytehjfjplajimfaa
open Go.RowKit
set_option linter.unusedVariables false

theorem kyF_app (acc a b : List Int) : kyF acc (a ++ b) = kyF (kyF acc a) b := by simp [kyF]
/-- The keys of a row's first slots, put into a rising list. -/
def kyT (acc : List Int) (row : List Sl) (k : Nat) : List Int := kyF acc (ky (us (row.take k)))
theorem kyT_zero (acc : List Int) (row : List Sl) : kyT acc row 0 = acc := by simp [kyT, us, ky, kyF]
theorem kyT_end (acc : List Int) (row : List Sl) : kyT acc row row.length = kyF acc (ky (us row)) := by simp [kyT]
theorem kyT_yes (acc : List Int) (row : List Sl) (k : Nat) (x z : Int) (h : k < row.length) (e : row.getD k sl0 = (true, x, z)) : kyT acc row (k + 1) = putS x (kyT acc row k) := by
  unfold kyT
  rw [us_take row k h, e, ky_app, kyF_app, us_cons_t]
  rfl
theorem kyT_no (acc : List Int) (row : List Sl) (k : Nat) (x z : Int) (h : k < row.length) (e : row.getD k sl0 = (false, x, z)) : kyT acc row (k + 1) = kyT acc row k := by
  unfold kyT
  rw [us_take row k h, e, us_cons_f, List.append_nil]
theorem kyT_len (acc : List Int) (row : List Sl) (k : Nat) : (kyT acc row k).length ≤ acc.length + row.length := by
  have h1 := kyF_le (ky (us (row.take k))) acc
  have h2 := us_len (row.take k)
  have h3 := ky_len (us (row.take k))
  have h4 : (row.take k).length ≤ row.length := by simp; omega
  unfold kyT
  omega
theorem kyT_two (ls rs : List Sl) : kyT (kyT [] ls ls.length) rs rs.length = kyS (ky (us ls ++ us rs)) := by
  rw [kyT_end, kyT_end, ← kyF_app, ← ky_app]
  rfl
theorem putE_step {w w' : World} {lo : Nat} {v v' : Value} {xs : List Int} {n : Int} (ho : Own w lo v xs) (hlo : lo ≤ w.heap.size) (hv : (v' = v ∧ putS n xs = xs) ∨ Own w' w.heap.size v' (putS n xs)) (hb : Below w.heap.size w w') : Own w' lo v' (putS n xs) := by
  rcases hv with ⟨rfl, h⟩ | h
  · rw [h]; exact ho.below hb
  · exact Own.mono h hlo

set_option maxRecDepth 100000 in
set_option maxHeartbeats 3200000 in
theorem sl12Keys_calls (s m : Int) (l r : Value) (ls rs : List Sl) (w : World) (hl : RdS w l ls) (hr : RdS w r rs) (hzl : ls.length ≤ 400) (hzr : rs.length ≤ 400) :
    Calls Try.prog 57 #[.agg #[.int .i64 s, l, r, .int .i64 m]] w fun e w' => (∃ v, e = .returned v ∧ TInts v (kyS (ky (us ls ++ us rs))) w.heap.size w'.heap.size w') ∧ Below w.heap.size w w' := by
  have HE := hide (kyT_two ls rs)
  obtain ⟨al, cl, rfl, _, _⟩ := hl.sl
  obtain ⟨ar, cr, rfl, _, _⟩ := hr.sl
  have b0 := below_box w (.cells #[.int .i64 s, .slice al ls.length cl, .slice ar rs.length cr, .int .i64 m] 28)
  have X0 := hide (BoxAt.new w #[.int .i64 s, .slice al ls.length cl, .slice ar rs.length cr, .int .i64 m] 28)
  have RL := hide (hl.below b0)
  have RR := hide (hr.below b0)
  have B0 := hide b0
  clear b0 hl hr
  obtain ⟨out, hout⟩ : ∃ o, o = kyS (ky (us ls ++ us rs)) := ⟨_, rfl⟩
  rw [← hout] at HE ⊢
  clear hout
  go_enter Try.func57, Try.ntmps57
  go_wp2
  obtain ⟨w0, hw0⟩ : ∃ w0, w0 = w.alloc (.cells #[.int .i64 s, .slice al ls.length cl, .slice ar rs.length cr, .int .i64 m] 28) := ⟨_, rfl⟩
  rw [← hw0] at X0 RL RR B0 ⊢
  clear hw0
  go_loopw [3, 11] (fun vo vi wr => ∃ (k : Nat), k ≤ ls.length ∧ vi = .int .i64 k ∧ Own wr w.heap.size vo (kyT [] ls k) ∧ Below w0.heap.size w0 wr) (fun _ vi _ => ls.length - (intOf vi).toNat)
  case atStart => exact ⟨0, Nat.zero_le _, rfl, by rw [kyT_zero]; exact World.ownsRow_nil _ _ _ _, Below.refl _ _⟩
  case round =>
    obtain ⟨k, hk, rfl, ho, hb⟩ := hrel
    have O := hide ho
    have B := hide hb
    obtain ⟨av, cv, rfl⟩ := row_slice ho
    have NL := hide (kyT_len [] ls k)
    clear ho hb
    by_cases hlt : k < ls.length
    · obtain ⟨b, off, u, x, z, rfl, hx, _, c0, c1, c2⟩ := (RL.out.below B.out).at k hlt
      have hlt' : (k : Int) < (ls.length : Int) := by omega
      have HX := hide hx
      clear hx
      have bx := below_box wr (.cells #[.bool u, .int .i64 x, .int .i64 z] 81)
      have OX := hide (O.out.below bx)
      have BX := hide (B.out.trans (bx.mono B.out.size))
      clear bx
      cases u with
      | false =>
        go_wp2
        refine ⟨⟨k + 1, by omega, by go_num, ?_, BX.out⟩, by simp [intOf]; omega⟩
        have := OX.out
        rw [← kyT_no [] ls k x z hlt HX.out] at this
        rw [← kyT_no [] ls k x z hlt HX.out]
        exact this
      | true =>
        go_wp2_with fail
        refine (l1PutE_calls _ (kyT [] ls k) x _ OX.out.rd (by have := NL.out; simp at this; omega)).mono ?_
        rintro e w2 ⟨v', rfl, hv, hb2⟩
        have O2 := putE_step OX.out (Nat.le_trans B0.out.size BX.out.size) hv hb2
        rw [← kyT_yes [] ls k x z hlt HX.out] at O2
        have OO := hide O2
        have BB := hide (BX.out.trans (hb2.mono BX.out.size))
        clear O2 hb2 hv
        go_wp2
        exact ⟨⟨k + 1, by omega, by go_num, OO.out, BB.out⟩, by simp [intOf]; omega⟩
    · obtain rfl : k = ls.length := by omega
      have x0 := (X0.out.below B.out).c4
      obtain ⟨y0, y1, y2, y3⟩ := x0
      go_wp2
      obtain ⟨wo, hwo⟩ : ∃ u, u = wr := ⟨_, rfl⟩
      rw [← hwo] at O B y0 y1 y2 y3 ⊢
      clear hwo wr
      go_loopw [3, 25] (fun vo vi wr => ∃ (k : Nat), k ≤ rs.length ∧ vi = .int .i64 k ∧ Own wr w.heap.size vo (kyT (kyT [] ls ls.length) rs k) ∧ Below w0.heap.size w0 wr) (fun _ vi _ => rs.length - (intOf vi).toNat)
      case atStart => exact ⟨0, Nat.zero_le _, rfl, by rw [kyT_zero]; exact O.out, B.out⟩
      case round =>
        obtain ⟨k, hk, rfl, ho, hb⟩ := hrel
        have O := hide ho
        have B := hide hb
        obtain ⟨av, cv, rfl⟩ := row_slice ho
        have NR := hide (kyT_len (kyT [] ls ls.length) rs k)
        clear ho hb
        by_cases hlt : k < rs.length
        · obtain ⟨b, off, u, x, z, rfl, hx, _, c0, c1, c2⟩ := (RR.out.below B.out).at k hlt
          have hlt' : (k : Int) < (rs.length : Int) := by omega
          have HX := hide hx
          clear hx
          have bx := below_box wr (.cells #[.bool u, .int .i64 x, .int .i64 z] 81)
          have OX := hide (O.out.below bx)
          have BX := hide (B.out.trans (bx.mono B.out.size))
          clear bx
          cases u with
          | false =>
            go_wp2
            refine ⟨⟨k + 1, by omega, by go_num, ?_, BX.out⟩, by simp [intOf]; omega⟩
            have := OX.out
            rw [← kyT_no (kyT [] ls ls.length) rs k x z hlt HX.out] at this
            rw [← kyT_no (kyT [] ls ls.length) rs k x z hlt HX.out]
            exact this
          | true =>
            go_wp2_with fail
            refine (l1PutE_calls _ (kyT (kyT [] ls ls.length) rs k) x _ OX.out.rd (by have h1 := NL.out; have h2 := NR.out; simp at h1; omega)).mono ?_
            rintro e w2 ⟨v', rfl, hv, hb2⟩
            have O2 := putE_step OX.out (Nat.le_trans B0.out.size BX.out.size) hv hb2
            rw [← kyT_yes (kyT [] ls ls.length) rs k x z hlt HX.out] at O2
            have OO := hide O2
            have BB := hide (BX.out.trans (hb2.mono BX.out.size))
            clear O2 hb2 hv
            go_wp2
            exact ⟨⟨k + 1, by omega, by go_num, OO.out, BB.out⟩, by simp [intOf]; omega⟩
        · obtain rfl : k = rs.length := by omega
          have OE := O.out
          rw [HE.out] at OE
          have OF := hide OE
          clear OE
          go_wp2
          go_ret
          refine ⟨⟨_, rfl, ?_, ?_⟩, B0.out.trans (B.out.mono B0.out.size)⟩
          · have h1 := OF.out
            rw [HE.out]
            exact h1
          · have h1 := row_top OF.out
            rw [HE.out]
            exact h1

theorem add_len (a b : List Sl) (p q : Nat) (h1 : p = (us a).length) (h2 : q = (us b).length) : (p : Int) + (q : Int) = ((us a ++ us b).length : Int) := by
  rw [List.length_append]; omega
set_option linter.unusedSimpArgs false in
set_option maxRecDepth 100000 in
set_option maxHeartbeats 3200000 in
theorem sGoodTable_calls (s m : Int) (l r : Value) (ls rs : List Sl) (t : Bool) (w : World) (hl : RdS w l ls) (hr : RdS w r rs) (hzl : ls.length ≤ 1048576) (hzr : rs.length ≤ 1048576) (ht : t = true ↔ okT s ls rs m) :
    Calls Try.prog 54 #[.agg #[.int .i64 s, l, r, .int .i64 m]] w fun e w' => e = .returned (.bool t) ∧ Below w.heap.size w w' := by
  have HT := hide ht
  clear ht
  obtain ⟨al, cl, rfl, _, _⟩ := hl.sl
  obtain ⟨ar, cr, rfl, _, _⟩ := hr.sl
  have RL := hide hl
  have RR := hide hr
  clear hl hr
  have A0 := hide ((Hand.start w).box #[.int .i64 s, .slice al ls.length cl, .slice ar rs.length cr, .int .i64 m] 28)
  obtain ⟨sb, hsb⟩ := bol_ex (sdOk s)
  have SB := hide hsb
  clear hsb
  obtain ⟨lb, hlb⟩ := bol_ex (rowOk (plc false s) ls)
  have LB := hide hlb
  clear hlb
  obtain ⟨rb, hrb⟩ := bol_ex (rowOk (plc true s) rs)
  have RB := hide hrb
  clear hrb
  cases sb with
  | false =>
    obtain rfl : t = false := not_t HT.out (fun h => nf SB.out h.1)
    have SF := hide (nf SB.out)
    go_enter Try.func54, Try.ntmps54
    go_wp2_with (go_at_call 55; refine (sl12Seed_calls _ false _ (bF SF.out)).mono ?_; rintro e w' ⟨rfl, rfl⟩)
    go_ret
    exact ⟨rfl, A0.out.below⟩
  | true =>
    have ST := hide (SB.out.1 rfl)
    go_enter Try.func54, Try.ntmps54
    go_wp2_with fail
    refine (sl12Seed_calls _ true _ (bT ST.out)).mono ?_
    rintro e w' ⟨rfl, rfl⟩
    go_wp2_with fail
    refine (sl12Row_calls s m _ _ _ ls rs ls false lb _ (RL.out.below A0.out.below) (RR.out.below A0.out.below) (RL.out.below A0.out.below) ST.out hzl LB.out).mono ?_
    rintro e w1 ⟨⟨p, rfl, hp, hp2⟩, b1⟩
    have P := hide hp
    have A1 := hide (A0.out.step b1)
    clear hp b1 A0
    obtain ⟨c0, c1, c2, c3⟩ := (A1.out.atBox 0 rfl).c4
    go_wp2_with fail
    clear c0 c1 c2 c3
    refine (sl12Row_calls s m _ _ _ ls rs rs true rb _ (RL.out.below A1.out.below) (RR.out.below A1.out.below) (RR.out.below A1.out.below) ST.out hzr RB.out).mono ?_
    rintro e w2 ⟨⟨q, rfl, hq, hq2⟩, b2⟩
    have Q := hide hq
    have A2 := hide (A1.out.step b2)
    clear hq b2 A1
    obtain ⟨c0, c1, c2, c3⟩ := (A2.out.atBox 0 rfl).c4
    cases lb with
    | false =>
      obtain rfl : t = false := not_t HT.out (fun h => nf LB.out h.2.1)
      go_wp2
      go_region
      all_goals
        go_wp2
        go_ret
        exact ⟨rfl, A2.out.below.drew⟩
    | true =>
      cases rb with
      | false =>
        obtain rfl : t = false := not_t HT.out (fun h => nf RB.out h.2.2.1)
        go_wp2
        go_region
        all_goals
          go_wp2
          go_ret
          exact ⟨rfl, A2.out.below.drew⟩
      | true =>
        have LT := hide (LB.out.1 rfl)
        have RT := hide (RB.out.1 rfl)
        have hs := hide (add_len ls rs p q (P.out rfl) (Q.out rfl))
        have hll : ls.length ≤ 400 := by have := LT.out.1; omega
        have hrl : rs.length ≤ 400 := by have := RT.out.1; omega
        by_cases hm : (p : Int) + (q : Int) = m
        · have KC := hide (fun W (h1 : RdS W _ ls) (h2 : RdS W _ rs) => sl12Keys_calls s m (.slice al ls.length cl) (.slice ar rs.length cr) ls rs W h1 h2 hll hrl)
          obtain ⟨n, hn⟩ : ∃ n, n = (kyS (ky (us ls ++ us rs))).length := ⟨_, rfl⟩
          have HN := hide hn
          clear hn
          have KN : Hid ((n : Int) = m ↔ t = true) := by
            show _ ↔ _
            rw [HT.out]
            have e1 := kyS_len (ky (us ls ++ us rs))
            rw [← HN.out, ky_len] at e1
            have e2 := hs.out
            constructor
            · intro h
              exact ⟨ST.out, LT.out, RT.out, by omega, e1.1 (by omega)⟩
            · intro h
              have := e1.2 h.2.2.2.2
              omega
          have NB : Hid (((n : Int) == m) = t) := by
            show _ = _
            cases t with
            | true => have := KN.out.2 rfl; simp [this]
            | false => have h1 : ¬ (n : Int) = m := fun h => by have := KN.out.1 h; simp at this
                       simp [h1]
          have F : Hid (∀ W, Below w2.heap.size w2 W → W.cell? ⟨w.heap.size, 0, none⟩ = some (.int .i64 s) ∧ W.cell? ⟨w.heap.size, 1, none⟩ = some (.slice al ls.length cl) ∧ W.cell? ⟨w.heap.size, 2, none⟩ = some (.slice ar rs.length cr) ∧ W.cell? ⟨w.heap.size, 3, none⟩ = some (.int .i64 m)) := fun W hb => ((A2.out.atBox 0 rfl).below hb).c4
          have RL2 : Hid (∀ W, Below w2.heap.size w2 W → RdS W (.slice al ls.length cl) ls ∧ RdS W (.slice ar rs.length cr) rs) := fun W hb => ⟨(RL.out.below A2.out.below).below hb, (RR.out.below A2.out.below).below hb⟩
          have hm' : ((p : Int) + (q : Int) == m) = true := by simpa using hm
          have HW : Hid ((IntKind.i64.wrap ((p : Int) + (q : Int)) == m) = true) := by
            show _ = _
            rw [show IntKind.i64.wrap ((p : Int) + (q : Int)) = (p : Int) + (q : Int) from by simp [IntKind.wrap, IntKind.bits, IntKind.signed]; omega]
            exact hm'
          clear hm
          go_upto_region 5 with fail
          refine wp_region_noPanic ?_
          refine wp_region_held_drew (S := fun w' => w'.cell? ⟨w.heap.size, 0, none⟩ = some (.int .i64 s) ∧ w'.cell? ⟨w.heap.size, 1, none⟩ = some (.slice al ls.length cl) ∧ w'.cell? ⟨w.heap.size, 2, none⟩ = some (.slice ar rs.length cr) ∧ w'.cell? ⟨w.heap.size, 3, none⟩ = some (.int .i64 m)) (by kernel_rfl) (F.out _ (Below.refl _ _).drew) (fun hHeld => ?_)
          refine wpAnyH_take (i := 0) (v := ?v1) rfl (by kernel_rfl) (by kernel_rfl) (by kernel_rfl) (fun _ _ _ h => h) (Or.inl ⟨by rfl, ?hy1⟩) (by assumption) ?rest1
          case hy1 => (intro w' hSw; dsimp only [List.getElem_toArray, List.getElem_cons_zero, List.getElem_cons_succ] at hSw ⊢; go_simp; try (with_reducible rfl))
          try simp only [Act.put, List.getElem_toArray, List.getElem_cons_zero, List.getElem_cons_succ, List.setIfInBounds_toArray, List.set_cons_zero, List.set_cons_succ]
          refine wpAnyH_take (i := 1) (v := ?v2) rfl (by kernel_rfl) (by kernel_rfl) (by kernel_rfl) (fun _ _ _ h => h) (Or.inl ⟨by rfl, ?hy2⟩) (by assumption) ?rest2
          case hy2 => (intro w' hSw; dsimp only [List.getElem_toArray, List.getElem_cons_zero, List.getElem_cons_succ] at hSw ⊢; go_simp; try (with_reducible rfl))
          try simp only [Act.put, List.getElem_toArray, List.getElem_cons_zero, List.getElem_cons_succ, List.setIfInBounds_toArray, List.set_cons_zero, List.set_cons_succ]
          refine wpAnyH_take (i := 2) (v := ?v3) rfl (by kernel_rfl) (by kernel_rfl) (by kernel_rfl) (fun _ _ _ h => h) (Or.inl ⟨by rfl, ?hy3⟩) (by assumption) ?rest3
          case hy3 => (intro w' hSw; dsimp only [List.getElem_toArray, List.getElem_cons_zero, List.getElem_cons_succ] at hSw ⊢; go_simp; try (with_reducible rfl))
          try simp only [Act.put, List.getElem_toArray, List.getElem_cons_zero, List.getElem_cons_succ, List.setIfInBounds_toArray, List.set_cons_zero, List.set_cons_succ]
          refine wpAnyH_take (i := 3) (v := ?v4) rfl (by kernel_rfl) (by kernel_rfl) (by kernel_rfl) (fun _ _ _ h => h) (Or.inl ⟨by rfl, ?hy4⟩) (by assumption) ?rest4
          case hy4 => (intro w' hSw; dsimp only [List.getElem_toArray, List.getElem_cons_zero, List.getElem_cons_succ] at hSw ⊢; go_simp; try (with_reducible rfl))
          try simp only [Act.put, List.getElem_toArray, List.getElem_cons_zero, List.getElem_cons_succ, List.setIfInBounds_toArray, List.set_cons_zero, List.set_cons_succ]
          refine wpAnyH_take (i := 4) (v := ?v5) rfl (by kernel_rfl) (by kernel_rfl) (by kernel_rfl) (fun _ _ _ h => h) (Or.inl ⟨by rfl, ?hy5⟩) (by assumption) ?rest5
          case hy5 => (intro w' hSw; dsimp only [List.getElem_toArray, List.getElem_cons_zero, List.getElem_cons_succ] at hSw ⊢; go_simp; try (with_reducible rfl))
          try simp only [Act.put, List.getElem_toArray, List.getElem_cons_zero, List.getElem_cons_succ, List.setIfInBounds_toArray, List.set_cons_zero, List.set_cons_succ]
          refine wpAnyH_take (i := 5) (v := ?v6) rfl (by kernel_rfl) (by kernel_rfl) (by kernel_rfl) (fun _ _ _ h => h) (Or.inl ⟨by rfl, ?hy6⟩) (by assumption) ?rest6
          case hy6 => (intro w' hSw; dsimp only [List.getElem_toArray, List.getElem_cons_zero, List.getElem_cons_succ] at hSw ⊢; go_simp; try (with_reducible rfl))
          try simp only [Act.put, List.getElem_toArray, List.getElem_cons_zero, List.getElem_cons_succ, List.setIfInBounds_toArray, List.set_cons_zero, List.set_cons_succ]
          refine wpAnyH_take (i := 6) (v := ?v7) rfl (by kernel_rfl) (by kernel_rfl) (by kernel_rfl) (fun _ _ _ h => h) (Or.inl ⟨by rfl, ?hy7⟩) (by assumption) ?rest7
          case hy7 => (intro w' hSw; dsimp only [List.getElem_toArray, List.getElem_cons_zero, List.getElem_cons_succ] at hSw ⊢; go_simp; try (with_reducible rfl))
          try simp only [Act.put, List.getElem_toArray, List.getElem_cons_zero, List.getElem_cons_succ, List.setIfInBounds_toArray, List.set_cons_zero, List.set_cons_succ]
          refine wpAnyH_take (i := 7) (v := ?v8) rfl (by kernel_rfl) (by kernel_rfl) (by kernel_rfl) (fun _ _ _ h => h) (Or.inl ⟨by rfl, ?hy8⟩) (by assumption) ?rest8
          case hy8 => (intro w' hSw; dsimp only [List.getElem_toArray, List.getElem_cons_zero, List.getElem_cons_succ] at hSw ⊢; go_simp; try (with_reducible rfl))
          try simp only [Act.put, List.getElem_toArray, List.getElem_cons_zero, List.getElem_cons_succ, List.setIfInBounds_toArray, List.set_cons_zero, List.set_cons_succ]
          refine wpAnyH_take (i := 8) (v := ?v9) rfl (by kernel_rfl) (by kernel_rfl) (by kernel_rfl) (fun _ _ _ h => h) (Or.inl ⟨by rfl, ?hy9⟩) (by assumption) ?rest9
          case hy9 => (intro w' hSw; dsimp only [List.getElem_toArray, List.getElem_cons_zero, List.getElem_cons_succ] at hSw ⊢; go_simp; try (with_reducible rfl))
          try simp only [Act.put, List.getElem_toArray, List.getElem_cons_zero, List.getElem_cons_succ, List.setIfInBounds_toArray, List.set_cons_zero, List.set_cons_succ]
          refine wpAnyH_take (i := 9) (v := ?v10) rfl (by kernel_rfl) (by kernel_rfl) (by kernel_rfl) (fun _ _ _ h => h) (Or.inl ⟨by rfl, ?hy10⟩) (by assumption) ?rest10
          case hy10 => (intro w' hSw; dsimp only [List.getElem_toArray, List.getElem_cons_zero, List.getElem_cons_succ] at hSw ⊢; go_simp; try (with_reducible rfl))
          try simp only [Act.put, List.getElem_toArray, List.getElem_cons_zero, List.getElem_cons_succ, List.setIfInBounds_toArray, List.set_cons_zero, List.set_cons_succ]
          refine wpAnyH_take (i := 10) (v := ?v11) rfl (by kernel_rfl) (by kernel_rfl) (by kernel_rfl) (fun _ _ _ h => h) (Or.inl ⟨by rfl, ?hy11⟩) (by assumption) ?rest11
          case hy11 => (intro w' hSw; dsimp only [List.getElem_toArray, List.getElem_cons_zero, List.getElem_cons_succ] at hSw ⊢; go_simp; try (with_reducible rfl))
          try simp only [Act.put, List.getElem_toArray, List.getElem_cons_zero, List.getElem_cons_succ, List.setIfInBounds_toArray, List.set_cons_zero, List.set_cons_succ]
          rw [HW.out]
          refine wpAnyH_take (i := 11) (v := ?v12) rfl (by kernel_rfl) (by kernel_rfl) (by kernel_rfl) (fun _ _ _ h => h) (Or.inl ⟨by rfl, ?hy12⟩) (by assumption) ?rest12
          case hy12 => (intro w' hSw; dsimp only [List.getElem_toArray, List.getElem_cons_zero, List.getElem_cons_succ] at hSw ⊢; go_simp; try (with_reducible rfl))
          try simp only [Act.put, List.getElem_toArray, List.getElem_cons_zero, List.getElem_cons_succ, List.setIfInBounds_toArray, List.set_cons_zero, List.set_cons_succ]
          refine wpAnyH_take (i := 12) (v := ?v13) rfl (by kernel_rfl) (by kernel_rfl) (by kernel_rfl) (fun _ _ _ h => h) (Or.inl ⟨by rfl, ?hy13⟩) (by assumption) ?rest13
          case hy13 => (intro w' hSw; dsimp only [List.getElem_toArray, List.getElem_cons_zero, List.getElem_cons_succ] at hSw ⊢; go_simp; try (with_reducible rfl))
          try simp only [Act.put, List.getElem_toArray, List.getElem_cons_zero, List.getElem_cons_succ, List.setIfInBounds_toArray, List.set_cons_zero, List.set_cons_succ]
          refine wpAnyH_take (i := 13) (v := ?v14) rfl (by kernel_rfl) (by kernel_rfl) (by kernel_rfl) (fun _ _ _ h => h) (Or.inl ⟨by rfl, ?hy14⟩) (by assumption) ?rest14
          case hy14 => (intro w' hSw; dsimp only [List.getElem_toArray, List.getElem_cons_zero, List.getElem_cons_succ] at hSw ⊢; go_simp; try (with_reducible rfl))
          try simp only [Act.put, List.getElem_toArray, List.getElem_cons_zero, List.getElem_cons_succ, List.setIfInBounds_toArray, List.set_cons_zero, List.set_cons_succ]
          refine wpAnyH_take (i := 16) (v := ?v15) rfl (by kernel_rfl) (by kernel_rfl) (by kernel_rfl) (fun _ _ _ h => h) (Or.inl ⟨by rfl, ?hy15⟩) (by assumption) ?rest15
          case hy15 => (intro w' hSw; dsimp only [List.getElem_toArray, List.getElem_cons_zero, List.getElem_cons_succ] at hSw ⊢; go_simp; try (with_reducible rfl))
          try simp only [Act.put, List.getElem_toArray, List.getElem_cons_zero, List.getElem_cons_succ, List.setIfInBounds_toArray, List.set_cons_zero, List.set_cons_succ]
          refine wpAnyH_take (i := 17) (v := ?v16) rfl (by kernel_rfl) (by kernel_rfl) (by kernel_rfl) (fun _ _ _ h => h) (Or.inl ⟨by rfl, ?hy16⟩) (by assumption) ?rest16
          case hy16 => (intro w' hSw; dsimp only [List.getElem_toArray, List.getElem_cons_zero, List.getElem_cons_succ] at hSw ⊢; go_simp; try (with_reducible rfl))
          try simp only [Act.put, List.getElem_toArray, List.getElem_cons_zero, List.getElem_cons_succ, List.setIfInBounds_toArray, List.set_cons_zero, List.set_cons_succ]
          refine wpAnyH_ready (rs := [14]) (by kernel_rfl) (by simp) ?_
          refine AllReadyH.cons rfl (fun K hK => ?_) AllReadyH.nil
          dsimp only [List.getElem_toArray, List.getElem_cons_zero, List.getElem_cons_succ]
          go_simp
          refine (KC.out _ (RL2.out _ (Below.refl _ _).drew).1 (RL2.out _ (Below.refl _ _).drew).2).mono ?_
          rintro e' u1 ⟨⟨v3, rfl, o3, _⟩, b1⟩
          obtain ⟨a3, cap3, rfl⟩ := row_slice o3
          rw [← HN.out]
          have B1 := hide ((Below.refl w2.heap.size w2).drew.trans b1)
          clear b1 o3
          refine hK.out _ _ (F.out _ B1.out) (fun hHeld => ?_)
          clear hK K
          try simp only [Act.put, List.getElem_toArray, List.getElem_cons_zero, List.getElem_cons_succ, List.setIfInBounds_toArray, List.set_cons_zero, List.set_cons_succ]
          refine wpAnyH_take (i := 15) (v := ?v17) rfl (by kernel_rfl) (by kernel_rfl) (by kernel_rfl) (fun _ _ _ h => h) (Or.inl ⟨by rfl, ?hy17⟩) (by assumption) ?rest17
          case hy17 => (intro w' hSw; dsimp only [List.getElem_toArray, List.getElem_cons_zero, List.getElem_cons_succ] at hSw ⊢; go_simp; try (with_reducible rfl))
          try simp only [Act.put, List.getElem_toArray, List.getElem_cons_zero, List.getElem_cons_succ, List.setIfInBounds_toArray, List.set_cons_zero, List.set_cons_succ]
          refine wpAnyH_take (i := 18) (v := ?v18) rfl (by kernel_rfl) (by kernel_rfl) (by kernel_rfl) (fun _ _ _ h => h) (Or.inl ⟨by rfl, ?hy18⟩) (by assumption) ?rest18
          case hy18 => (intro w' hSw; dsimp only [List.getElem_toArray, List.getElem_cons_zero, List.getElem_cons_succ] at hSw ⊢; go_simp; try (with_reducible rfl))
          try simp only [Act.put, List.getElem_toArray, List.getElem_cons_zero, List.getElem_cons_succ, List.setIfInBounds_toArray, List.set_cons_zero, List.set_cons_succ]
          refine wpAnyH_take (i := 19) (v := ?v19) rfl (by kernel_rfl) (by kernel_rfl) (by kernel_rfl) (fun _ _ _ h => h) (Or.inl ⟨by rfl, ?hy19⟩) (by assumption) ?rest19
          case hy19 => (intro w' hSw; dsimp only [List.getElem_toArray, List.getElem_cons_zero, List.getElem_cons_succ] at hSw ⊢; go_simp; try (with_reducible rfl))
          try simp only [Act.put, List.getElem_toArray, List.getElem_cons_zero, List.getElem_cons_succ, List.setIfInBounds_toArray, List.set_cons_zero, List.set_cons_succ]
          refine wpAnyH_take (i := 20) (v := ?v20) rfl (by kernel_rfl) (by kernel_rfl) (by kernel_rfl) (fun _ _ _ h => h) (Or.inl ⟨by rfl, ?hy20⟩) (by assumption) ?rest20
          case hy20 => (intro w' hSw; dsimp only [List.getElem_toArray, List.getElem_cons_zero, List.getElem_cons_succ] at hSw ⊢; go_simp; try (with_reducible rfl))
          try simp only [Act.put, List.getElem_toArray, List.getElem_cons_zero, List.getElem_cons_succ, List.setIfInBounds_toArray, List.set_cons_zero, List.set_cons_succ]
          refine wpAnyH_done (by kernel_rfl) ?_ _
          refine NoPanic.normal ?_
          clear hHeld
          go_wp2
          go_ret
          exact ⟨by simp [NB.out], A2.out.below.trans (B1.out.mono A2.out.below.size)⟩
        · obtain rfl : t = false := not_t HT.out (fun h => hm (by rw [hs.out]; exact h.2.2.2.1))
          have hm' : ((p : Int) + (q : Int) == m) = false := by simpa using hm
          go_wp2
          go_region
          all_goals
            go_wp2
            go_ret
            exact ⟨rfl, A2.out.below.drew⟩
end Go.Proofs.Ytehjfjplajimfaa

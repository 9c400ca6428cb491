/-
  The model's GoodTable: its rows and its keys, call by call. Each contract says what it asks.
-/
import Derived.Test.YtehjfjplajimfaaTbp
namespace Go.Proofs.Ytehjfjplajimfaa
open Go.RowKit
set_option linter.unusedVariables false

theorem not_t {t : Bool} {p : Prop} (ht : t = true ↔ p) (h : ¬ p) : t = false := by
  cases t with
  | false => rfl
  | true => exact absurd (ht.1 rfl) h
theorem us_take (row : List Sl) (k : Nat) (h : k < row.length) : us (row.take (k + 1)) = us (row.take k) ++ us [row.getD k sl0] := by
  rw [take_succ_getD row k sl0 h, us_app]
theorem us_cons_t (k z : Int) : us [((true, k, z) : Sl)] = [(true, k, z)] := rfl
theorem us_cons_f (k z : Int) : us [((false, k, z) : Sl)] = [] := rfl
/-- How many are Used, where it is told. -/
def CntIs (t : Bool) (c : Nat) (row : List Sl) : Prop := t = true → c = (us row).length
/-- What a row's place function is. -/
def plc (right : Bool) (s k : Int) : Int := if right = true then sn s k else fs s k

set_option maxRecDepth 100000 in
set_option maxHeartbeats 3200000 in
theorem sl12Row_calls (s m : Int) (l r v : Value) (ls rs row : List Sl) (right t : Bool) (w : World) (hl : RdS w l ls) (hr : RdS w r rs) (hv : RdS w v row) (hs : sdOk s) (hz : row.length ≤ 1048576) (ht : t = true ↔ rowOk (plc right s) row) :
    Calls Try.prog 90 #[.agg #[.int .i64 s, l, r, .int .i64 m], v, .bool right] w fun e w' => (∃ c : Nat, e = .returned (.tuple #[.int .i64 c, .bool t]) ∧ CntIs t c row ∧ c ≤ 1048576) ∧ Below w.heap.size w w' := by
  obtain ⟨al, cl, rfl, _, _⟩ := hl.sl
  obtain ⟨ar, cr, rfl, _, _⟩ := hr.sl
  have b0 := below_box w (.cells #[.int .i64 s, .slice al ls.length cl, .slice ar rs.length cr, .int .i64 m] 28)
  have X0 := hide (BoxAt.new w #[.int .i64 s, .slice al ls.length cl, .slice ar rs.length cr, .int .i64 m] 28)
  have R := hide (hv.below b0)
  have B0 := hide b0
  obtain ⟨av, cv, rfl, _, _⟩ := hv.sl
  clear b0 hl hr hv
  have HS := hide hs
  have HT := hide ht
  clear hs ht
  go_enter Try.func90, Try.ntmps90
  go_wp2
  obtain ⟨w0, hw0⟩ : ∃ w0, w0 = w.alloc (.cells #[.int .i64 s, .slice al ls.length cl, .slice ar rs.length cr, .int .i64 m] 28) := ⟨_, rfl⟩
  rw [← hw0] at X0 R B0 ⊢
  clear hw0
  go_loopw [8, 14] (fun vn vi wr => ∃ (k c : Nat), k ≤ row.length ∧ vi = .int .i64 k ∧ vn = .int .i64 c ∧ c = (us (row.take k)).length ∧ (∀ i, i < k → slOk (plc right s) i (row.getD i sl0)) ∧ Below w0.heap.size w0 wr) (fun _ vi _ => row.length - (intOf vi).toNat)
  case atStart => exact ⟨0, 0, Nat.zero_le _, rfl, rfl, by simp [us], fun i hi => by omega, Below.refl _ _⟩
  case round =>
    obtain ⟨k, c, hk, rfl, rfl, hc, hok, hb⟩ := hrel
    have hcb : c ≤ k := by rw [hc]; refine Nat.le_trans (us_len _) ?_; simp; omega
    have HC := hide hc
    have OK := hide hok
    have B := hide hb
    clear hc hok hb
    by_cases hlt : k < row.length
    · obtain ⟨b, off, u, ky, z, rfl, hx, _, c0, c1, c2⟩ := (R.out.below B.out).at k hlt
      have hlt' : (k : Int) < (row.length : Int) := by omega
      have HX := hide hx
      have hN : Hid (us (row.take (k + 1)) = us (row.take k) ++ us [(u, ky, z)]) := by show _ = _; rw [← hx]; exact us_take row k hlt
      clear hx
      have bx := below_box wr (.cells #[.bool u, .int .i64 ky, .int .i64 z] 81)
      have x0 := cell_below (((X0.out.below B.out).c4).1) bx
      have BX := hide (B.out.trans (bx.mono B.out.size))
      clear bx
      have NO : Hid (¬ slOk (plc right s) k (u, ky, z) → t = false) := fun h => not_t HT.out (fun h' => h (by have := h'.2 k hlt; rwa [HX.out] at this))
      have YES : Hid (slOk (plc right s) k (u, ky, z) → ∀ i, i < k + 1 → slOk (plc right s) i (row.getD i sl0)) := fun h i hi => by
        by_cases e : i = k
        · subst e; rw [HX.out]; exact h
        · exact OK.out i (by omega)
      cases u with
      | false =>
        by_cases hky : ky = 0
        · by_cases hzz : z = 0
          · subst hky hzz
            go_wp2
            refine ⟨⟨k + 1, c, by omega, by go_num, rfl, ?_, YES.out (.inl rfl), BX.out⟩, by simp [intOf]; omega⟩
            rw [hN.out, us_cons_f, List.append_nil]
            exact HC.out
          · subst hky
            obtain rfl : t = false := NO.out (by
              rintro (h | h)
              · simp [sl0] at h; exact hzz h
              · simp at h)
            go_wp2
            go_ret2
            exact ⟨⟨0, rfl, fun h => by simp at h, by omega⟩, B0.out.trans (BX.out.mono B0.out.size)⟩
        · obtain rfl : t = false := NO.out (by
            rintro (h | h)
            · simp [sl0] at h; exact hky h.1
            · simp at h)
          go_wp2
          go_ret2
          exact ⟨⟨0, rfl, fun h => by simp at h, by omega⟩, B0.out.trans (BX.out.mono B0.out.size)⟩
      | true =>
        obtain ⟨kb, hkb⟩ := bol_ex (kOk ky)
        obtain ⟨zb, hzb⟩ := bol_ex (0 ≤ z ∧ z ≤ 9999)
        have KB := hide hkb
        have ZB := hide hzb
        clear hkb hzb
        have AT : Hid (∀ W, Calls Try.prog 93 #[.int .i64 s, .int .i64 ky] W fun e w' => (∃ x : Int, e = .returned (.int .i64 x) ∧ (kb = true → x = fs s ky)) ∧ W = w') := fun W => by
          cases kb with
          | false => exact (sl12First_any s ky W).mono fun e w' ⟨⟨x, h⟩, h2⟩ => ⟨⟨x, h, fun h => by simp at h⟩, h2⟩
          | true => exact (sl12First_calls s ky W HS.out (KB.out.1 rfl)).mono fun e w' ⟨h, h2⟩ => ⟨⟨_, h, fun _ => rfl⟩, h2⟩
        have AS : Hid (∀ W, Calls Try.prog 94 #[.int .i64 s, .int .i64 ky] W fun e w' => (∃ x : Int, e = .returned (.int .i64 x) ∧ (kb = true → x = sn s ky)) ∧ W = w') := fun W => by
          cases kb with
          | false => exact (sl12Second_any s ky W).mono fun e w' ⟨⟨x, h⟩, h2⟩ => ⟨⟨x, h, fun h => by simp at h⟩, h2⟩
          | true => exact (sl12Second_calls s ky W HS.out (KB.out.1 rfl)).mono fun e w' ⟨h, h2⟩ => ⟨⟨_, h, fun _ => rfl⟩, h2⟩
        have SAY : Hid (∀ x : Int, (kb = true → x = plc right s ky) → (kb = true ∧ zb = true ∧ x = (k : Int) → slOk (plc right s) k (true, ky, z)) ∧ (¬ (kb = true ∧ zb = true ∧ x = (k : Int)) → ¬ slOk (plc right s) k (true, ky, z))) := by
          intro x hx
          constructor
          · rintro ⟨h1, h2, h3⟩
            exact .inr ⟨rfl, KB.out.1 h1, ZB.out.1 h2, by rw [← hx h1]; exact h3⟩
          · rintro h (h' | ⟨_, h2, h3, h4⟩)
            · simp [sl0] at h'
            · exact h ⟨KB.out.2 h2, ZB.out.2 h3, by rw [hx (KB.out.2 h2)]; exact h4⟩
        have NXT : Hid (c + 1 = (us (row.take (k + 1))).length) := by
          show _ = _
          rw [hN.out, us_cons_t, List.length_append, ← HC.out]; rfl
        cases right with
        | false =>
          go_wp2_with fail
          refine (AT.out _).mono ?_
          rintro e w1 ⟨⟨x, rfl, hx⟩, rfl⟩
          obtain ⟨S1, S2⟩ := SAY.out x hx
          have HS1 := hide S1
          have HS2 := hide S2
          clear S1 S2 hx
          cases kb with
          | false =>
            have KF := hide (nf KB.out)
            obtain rfl : t = false := NO.out (HS2.out (by simp))
            go_wp2_with (go_at_call 77; refine (sl12Key_calls _ false _ (bF KF.out)).mono ?_; rintro e w' ⟨rfl, rfl⟩)
            go_ret2
            exact ⟨⟨0, rfl, fun h => by simp at h, by omega⟩, B0.out.trans (BX.out.mono B0.out.size)⟩
          | true =>
            have KT := hide (KB.out.1 rfl)
            cases zb with
            | false =>
              have ZF := hide (nf ZB.out)
              obtain rfl : t = false := NO.out (HS2.out (by simp))
              go_wp2_with (first | (go_at_call 77; refine (sl12Key_calls _ true _ (bT KT.out)).mono ?_; rintro e w' ⟨rfl, rfl⟩) | (go_at_call 68; refine (sl1In_calls _ _ _ false _ (bF ZF.out)).mono ?_; rintro e w' ⟨rfl, rfl⟩))
              go_ret2
              exact ⟨⟨0, rfl, fun h => by simp at h, by omega⟩, B0.out.trans (BX.out.mono B0.out.size)⟩
            | true =>
              have ZT := hide (ZB.out.1 rfl)
              by_cases hxk : x = (k : Int)
              · have G := hide (HS1.out ⟨rfl, rfl, hxk⟩)
                subst hxk
                go_wp2_with (first | (go_at_call 77; refine (sl12Key_calls _ true _ (bT KT.out)).mono ?_; rintro e w' ⟨rfl, rfl⟩) | (go_at_call 68; refine (sl1In_calls _ _ _ true _ (bT ZT.out)).mono ?_; rintro e w' ⟨rfl, rfl⟩))
                exact ⟨⟨k + 1, c + 1, by omega, by go_num, by go_num, NXT.out, YES.out G.out, BX.out⟩, by simp [intOf]; omega⟩
              · obtain rfl : t = false := NO.out (HS2.out (fun h => hxk h.2.2))
                go_wp2_with (first | (go_at_call 77; refine (sl12Key_calls _ true _ (bT KT.out)).mono ?_; rintro e w' ⟨rfl, rfl⟩) | (go_at_call 68; refine (sl1In_calls _ _ _ true _ (bT ZT.out)).mono ?_; rintro e w' ⟨rfl, rfl⟩))
                go_ret2
                exact ⟨⟨0, rfl, fun h => by simp at h, by omega⟩, B0.out.trans (BX.out.mono B0.out.size)⟩
        | true =>
          go_wp2_with fail
          refine (AT.out _).mono ?_
          rintro e w1 ⟨⟨x', rfl, hx'⟩, rfl⟩
          clear hx'
          go_wp2_with fail
          refine (AS.out _).mono ?_
          rintro e w1 ⟨⟨x, rfl, hx⟩, rfl⟩
          obtain ⟨S1, S2⟩ := SAY.out x hx
          have HS1 := hide S1
          have HS2 := hide S2
          clear S1 S2 hx
          cases kb with
          | false =>
            have KF := hide (nf KB.out)
            obtain rfl : t = false := NO.out (HS2.out (by simp))
            go_wp2_with (go_at_call 77; refine (sl12Key_calls _ false _ (bF KF.out)).mono ?_; rintro e w' ⟨rfl, rfl⟩)
            go_ret2
            exact ⟨⟨0, rfl, fun h => by simp at h, by omega⟩, B0.out.trans (BX.out.mono B0.out.size)⟩
          | true =>
            have KT := hide (KB.out.1 rfl)
            cases zb with
            | false =>
              have ZF := hide (nf ZB.out)
              obtain rfl : t = false := NO.out (HS2.out (by simp))
              go_wp2_with (first | (go_at_call 77; refine (sl12Key_calls _ true _ (bT KT.out)).mono ?_; rintro e w' ⟨rfl, rfl⟩) | (go_at_call 68; refine (sl1In_calls _ _ _ false _ (bF ZF.out)).mono ?_; rintro e w' ⟨rfl, rfl⟩))
              go_ret2
              exact ⟨⟨0, rfl, fun h => by simp at h, by omega⟩, B0.out.trans (BX.out.mono B0.out.size)⟩
            | true =>
              have ZT := hide (ZB.out.1 rfl)
              by_cases hxk : x = (k : Int)
              · have G := hide (HS1.out ⟨rfl, rfl, hxk⟩)
                subst hxk
                go_wp2_with (first | (go_at_call 77; refine (sl12Key_calls _ true _ (bT KT.out)).mono ?_; rintro e w' ⟨rfl, rfl⟩) | (go_at_call 68; refine (sl1In_calls _ _ _ true _ (bT ZT.out)).mono ?_; rintro e w' ⟨rfl, rfl⟩))
                exact ⟨⟨k + 1, c + 1, by omega, by go_num, by go_num, NXT.out, YES.out G.out, BX.out⟩, by simp [intOf]; omega⟩
              · obtain rfl : t = false := NO.out (HS2.out (fun h => hxk h.2.2))
                go_wp2_with (first | (go_at_call 77; refine (sl12Key_calls _ true _ (bT KT.out)).mono ?_; rintro e w' ⟨rfl, rfl⟩) | (go_at_call 68; refine (sl1In_calls _ _ _ true _ (bT ZT.out)).mono ?_; rintro e w' ⟨rfl, rfl⟩))
                go_ret2
                exact ⟨⟨0, rfl, fun h => by simp at h, by omega⟩, B0.out.trans (BX.out.mono B0.out.size)⟩
    · obtain rfl : k = row.length := by omega
      have HC2 : Hid (c = (us row).length) := by have := HC.out; rwa [List.take_length] at this
      by_cases h11 : row.length = 11
      · obtain rfl : t = true := HT.out.2 ⟨h11, OK.out⟩
        have h11' : ((row.length : Int) == 11) = true := by simp; omega
        go_wp2
        go_ret2
        exact ⟨⟨c, rfl, fun _ => HC2.out, by omega⟩, B0.out.trans (B.out.mono B0.out.size)⟩
      · obtain rfl : t = false := not_t HT.out (fun h => h11 h.1)
        have h11' : ((row.length : Int) == 11) = false := by simp; omega
        go_wp2
        go_ret2
        exact ⟨⟨c, rfl, fun h => by simp at h, by omega⟩, B0.out.trans (B.out.mono B0.out.size)⟩
end Go.Proofs.Ytehjfjplajimfaa

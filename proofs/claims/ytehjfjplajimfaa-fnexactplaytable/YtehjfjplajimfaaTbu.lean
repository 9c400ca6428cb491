/-
  The program's rows, places, used slots and keys, call by call. Each contract says what it asks.
-/
import Derived.Test.YtehjfjplajimfaaTbs
namespace Go.Proofs.Ytehjfjplajimfaa
open Go.RowKit
set_option linter.unusedVariables false

theorem arInfo : (Try.prog.info? 108).map (·.size) = some 2 := by kernel_rfl
theorem aiInfo : (Try.prog.info? 120).map (·.size) = some 2 := by kernel_rfl
theorem res_ar {fn : Func} {x : Tmp} (hf : fn.results = #[.cell x 108]) (tmps : Array Value) (w : World) (g : Nat) (a b : Value) (fr : Nat × Nat) (hp : tmps.getD x undef = .pointer (some ⟨g, 0, none⟩))
    (hg : w.heap[g]? = some (.cells #[a, b] 108 fr)) : (results fn tmps).run Try.prog w = .ok (.agg #[a, b]) w :=
  results_cell_row hf tmps w g _ _ fr _ hp hg Try.underlying108 rfl arInfo
theorem res_ai {fn : Func} {x : Tmp} (hf : fn.results = #[.cell x 120]) (tmps : Array Value) (w : World) (g : Nat) (a b : Value) (fr : Nat × Nat) (hp : tmps.getD x undef = .pointer (some ⟨g, 0, none⟩))
    (hg : w.heap[g]? = some (.cells #[a, b] 120 fr)) : (results fn tmps).run Try.prog w = .ok (.agg #[a, b]) w :=
  results_cell_row hf tmps w g _ _ fr _ hp hg Try.underlying120 rfl aiInfo
theorem ixR0 (a b : Value) (W : World) : (Instr.index 108 (.agg #[a, b]) (.int .i64 0)).run Try.prog W = .ok a W := by kernel_rfl
theorem ixR1 (a b : Value) (W : World) : (Instr.index 108 (.agg #[a, b]) (.int .i64 1)).run Try.prog W = .ok b W := by kernel_rfl
theorem ixI0 (a b : Value) (W : World) : (Instr.index 120 (.agg #[a, b]) (.int .i64 0)).run Try.prog W = .ok a W := by kernel_rfl
theorem ixI1 (a b : Value) (W : World) : (Instr.index 120 (.agg #[a, b]) (.int .i64 1)).run Try.prog W = .ok b W := by kernel_rfl

set_option maxRecDepth 100000 in
set_option maxHeartbeats 800000 in
theorem slotRows_calls (s m : Int) (al ar : Option Addr) (nl cl nr cr : Nat) (w : World) :
    Calls Try.prog 97 #[.agg #[.int .i64 s, .slice al nl cl, .slice ar nr cr, .int .i64 m]] w fun e w' => e = .returned (.agg #[.slice al nl cl, .slice ar nr cr]) ∧ Below w.heap.size w w' := by
  have A0 := hide (Hand.twoN w #[.int .i64 s, .slice al nl cl, .slice ar nr cr, .int .i64 m] #[.slice al nl cl, .slice ar nr cr] 28 108)
  go_enter Try.func97, Try.ntmps97
  go_wp2
  exact bodyPost_ret (res_ar rfl _ _ (w.heap.size + 1) _ _ (0, 0) rfl (A0.out.atBox 0 rfl)) rfl ⟨rfl, A0.out.below⟩
set_option maxRecDepth 100000 in
set_option maxHeartbeats 800000 in
theorem placesIn_calls (s k : Int) (w : World) (hs : sdOk s) (hk : kOk k) :
    Calls Try.prog 115 #[.int .i64 s, .int .i64 k] w fun e w' => e = .returned (.agg #[.int .i64 (fs s k), .int .i64 (sn s k)]) ∧ Below w.heap.size w w' := by
  have A0 := hide ((Hand.start w).box #[.int .i64 (fs s k), .int .i64 (sn s k)] 120)
  have HP := hide (fun W => placesOf_calls s k true W (bT ⟨hs, hk⟩))
  go_enter Try.func115, Try.ntmps115
  go_wp2_with (go_at_call 123; refine (HP.out _).mono ?_; rintro e w' ⟨rfl, rfl⟩; rw [show plF true s k = fs s k from rfl, show plS true s k = sn s k from rfl])
  exact bodyPost_ret (res_ai rfl _ _ w.heap.size _ _ (0, 0) rfl (A0.out.atBox 0 rfl)) rfl ⟨rfl, A0.out.below⟩
/-- A place by a row's number. -/
def plN (n : Nat) (s k : Int) : Int := if n = 0 then fs s k else sn s k
set_option maxRecDepth 100000 in
set_option maxHeartbeats 1600000 in
theorem isSlotAt_calls (s ky z : Int) (u : Bool) (n at' : Nat) (t : Bool) (w : World) (hs : sdOk s) (hn : n = 0 ∨ n = 1) (ht : t = true ↔ (u = true ∧ kOk ky ∧ kOk z ∧ plN n s ky = (at' : Int))) :
    Calls Try.prog 98 #[.int .i64 s, .agg #[.bool u, .int .i64 ky, .int .i64 z], .int .i64 n, .int .i64 at'] w fun e w' => e = .returned (.bool t) ∧ Below w.heap.size w w' := by
  have HT := hide ht
  clear ht
  have A0 := hide ((Hand.start w).box #[.bool u, .int .i64 ky, .int .i64 z] 81)
  have HS := hide hs
  clear hs
  cases u with
  | false =>
    obtain rfl : t = false := not_t HT.out (fun h => by simp at h)
    clear HT
    go_enter Try.func98, Try.ntmps98
    go_wp2
    go_ret
    exact ⟨rfl, A0.out.below⟩
  | true =>
    obtain ⟨kb, hkb⟩ := bol_ex (kOk ky)
    have KB := hide hkb
    clear hkb
    cases kb with
    | false =>
      have KF := hide (nf KB.out)
      obtain rfl : t = false := not_t HT.out (fun h => KF.out h.2.1)
      clear HT
      go_enter Try.func98, Try.ntmps98
      go_wp2_with (go_at_call 79; refine (isTableKey_calls _ false _ (bF KF.out)).mono ?_; rintro e w' ⟨rfl, rfl⟩)
      go_ret
      exact ⟨rfl, A0.out.below⟩
    | true =>
      have KT := hide (KB.out.1 rfl)
      obtain ⟨zb, hzb⟩ := bol_ex (kOk z)
      have ZB := hide hzb
      clear hzb
      cases zb with
      | false =>
        have ZF := hide (nf ZB.out)
        obtain rfl : t = false := not_t HT.out (fun h => ZF.out h.2.2.1)
        clear HT
        go_enter Try.func98, Try.ntmps98
        go_wp2_with (first | (go_at_call 79; refine (isTableKey_calls _ true _ (bT KT.out)).mono ?_; rintro e w' ⟨rfl, rfl⟩) | (go_at_call 104; refine (isSlotValue_calls _ false _ (bF ZF.out)).mono ?_; rintro e w' ⟨rfl, rfl⟩))
        go_ret
        exact ⟨rfl, A0.out.below⟩
      | true =>
        have ZT := hide (ZB.out.1 rfl)
        have TB : Hid ((plN n s ky == (at' : Int)) = t) := by
          show _ = _
          cases t with
          | true => have := (HT.out.1 rfl).2.2.2; simp [this]
          | false =>
            have h1 : ¬ plN n s ky = (at' : Int) := fun h => nf HT.out ⟨rfl, KT.out, ZT.out, h⟩
            simp [h1]
        clear HT
        rcases hn with rfl | rfl
        · have tb : (fs s ky == (at' : Int)) = t := TB.out
          have ix := ixI0
          go_enter Try.func98, Try.ntmps98
          go_wp2_with (first | (go_at_call 79; refine (isTableKey_calls _ true _ (bT KT.out)).mono ?_; rintro e w' ⟨rfl, rfl⟩) | (go_at_call 104; refine (isSlotValue_calls _ true _ (bT ZT.out)).mono ?_; rintro e w' ⟨rfl, rfl⟩) | (go_at_call 115; refine (placesIn_calls _ _ _ HS.out KT.out).mono ?_; rintro e w1 ⟨rfl, b1⟩; have B1 := hide (A0.out.step b1).below; clear b1))
          go_ret
          exact ⟨by rw [← tb]; rfl, B1.out⟩
        · have tb : (sn s ky == (at' : Int)) = t := TB.out
          have ix := ixI1
          go_enter Try.func98, Try.ntmps98
          go_wp2_with (first | (go_at_call 79; refine (isTableKey_calls _ true _ (bT KT.out)).mono ?_; rintro e w' ⟨rfl, rfl⟩) | (go_at_call 104; refine (isSlotValue_calls _ true _ (bT ZT.out)).mono ?_; rintro e w' ⟨rfl, rfl⟩) | (go_at_call 115; refine (placesIn_calls _ _ _ HS.out KT.out).mono ?_; rintro e w1 ⟨rfl, b1⟩; have B1 := hide (A0.out.step b1).below; clear b1))
          go_ret
          exact ⟨by rw [← tb]; rfl, B1.out⟩

/-- Slots used so far. -/
def usT (pre row : List Sl) (k : Nat) : List Sl := pre ++ us (row.take k)
theorem usT_zero (pre row : List Sl) : usT pre row 0 = pre := by simp [usT, us]
theorem usT_end (pre row : List Sl) : usT pre row row.length = pre ++ us row := by simp [usT]
theorem usT_yes (pre row : List Sl) (k : Nat) (x z : Int) (h : k < row.length) (e : row.getD k sl0 = (true, x, z)) : usT pre row (k + 1) = usT pre row k ++ [(true, x, z)] := by
  unfold usT
  rw [us_take row k h, e, us_cons_t, List.append_assoc]
theorem usT_no (pre row : List Sl) (k : Nat) (h : k < row.length) (e : row.getD k sl0 = sl0) : usT pre row (k + 1) = usT pre row k := by
  unfold usT
  rw [us_take row k h, e, us_zero, List.append_nil]
theorem usT_len (pre row : List Sl) (k : Nat) : (usT pre row k).length ≤ pre.length + row.length := by
  have h2 := us_len (row.take k)
  have h4 : (row.take k).length ≤ row.length := by simp; omega
  unfold usT
  rw [List.length_append]
  omega
theorem own_form {w : World} {base : Nat} {v : Value} {xs ys : List Sl} (h : OwnS w base v (xs ++ ys)) (hy : 0 < ys.length) : ∃ g n cap, v = .slice (some ⟨g, 0, none⟩) n cap := by
  obtain ⟨g, cap, e, _⟩ := h.form (by rw [List.length_append]; omega)
  exact ⟨g, _, cap, e⟩
/-- Slots that may be in a row: none, or used. -/
def plain (row : List Sl) : Prop := ∀ i, i < row.length → row.getD i sl0 = sl0 ∨ (row.getD i sl0).1 = true
theorem rowOk.plain {f : Int → Int} {row : List Sl} (h : rowOk f row) : plain row := fun i hi => by
  rcases h.2 i hi with h | h
  · exact .inl h
  · exact .inr h.1
theorem ownS_empty {w : World} {base : Nat} (h : base ≤ w.heap.size) : OwnS (w.alloc (.cells #[] 81)) base (.slice (some ⟨w.heap.size, 0, none⟩) 0 0) [] :=
  ⟨rfl, .inr ⟨w.heap.size, 0, #[], rfl, h, heap_alloc_new w _, Nat.le_refl _, Nat.zero_le _, rfl, rfl⟩⟩

set_option maxRecDepth 100000 in
set_option maxHeartbeats 6400000 in
theorem usedSlots_calls (s m : Int) (l r : Value) (ls rs : List Sl) (w : World) (hl : RdS w l ls) (hr : RdS w r rs) (hzl : ls.length ≤ 400) (hzr : rs.length ≤ 400) (hpl : plain ls) (hpr : plain rs) :
    Calls Try.prog 63 #[.agg #[.int .i64 s, l, r, .int .i64 m]] w fun e w' => (∃ g n cap ds, e = .returned (.slice (some ⟨g, 0, none⟩) n cap) ∧ OwnS w' w.heap.size (.slice (some ⟨g, 0, none⟩) n cap) ds ∧ ds.Perm (us ls ++ us rs) ∧ Rising ds) ∧ Below w.heap.size w w' := by
  obtain ⟨al, cl, rfl, _, _⟩ := hl.sl
  obtain ⟨ar, cr, rfl, _, _⟩ := hr.sl
  have RL := hide hl
  have RR := hide hr
  have HPls := hide hpl
  have HPrs := hide hpr
  clear hl hr hpl hpr
  have A0 := hide (((Hand.start w).box #[.int .i64 s, .slice al ls.length cl, .slice ar rs.length cr, .int .i64 m] 28).box #[] 81)
  have O0 := hide (ownS_empty (w := w.alloc (.cells #[.int .i64 s, .slice al ls.length cl, .slice ar rs.length cr, .int .i64 m] 28)) (base := w.heap.size) (by simp))
  go_enter Try.func63, Try.ntmps63
  go_wp2_with fail
  refine (slotRows_calls s m al ar ls.length cl rs.length cr _).mono ?_
  rintro e w1 ⟨rfl, b1⟩
  have B1 := hide (A0.out.step b1).below
  have O1 : Hid (OwnS w1 w.heap.size (.slice (some ⟨w.heap.size + 1, 0, none⟩) 0 0) []) := by
    have h1 := rowsBelow O0.out b1
    rwa [World.size_alloc] at h1
  clear b1 A0 O0
  go_wp2
  go_loopw [3, 11] (fun vo vj wr => ∃ (j : Int) (g n cap : Nat), (0 ≤ j ∧ j ≤ 2) ∧ vj = .int .i64 j ∧ vo = .slice (some ⟨g, 0, none⟩) n cap ∧ OwnS wr w.heap.size vo (if j = 0 then [] else if j = 1 then us ls else us ls ++ us rs) ∧ Below w.heap.size w wr) (fun _ vj _ => 2 - (intOf vj).toNat)
  case atStart => exact ⟨0, _, _, _, ⟨by omega, by omega⟩, rfl, rfl, O1.out, B1.out⟩
  case round =>
    obtain ⟨j, g0, n0, cap0, hj, rfl, rfl, ho, hb⟩ := hrel
    have O := hide ho
    have B := hide hb
    clear ho hb O1 B1
    have h3 : j = 0 ∨ j = 1 ∨ j = 2 := by omega
    clear hj
    obtain ⟨wo, hwo⟩ : ∃ u, u = wr := ⟨_, rfl⟩
    rw [← hwo] at O B ⊢
    clear hwo wr
    rcases h3 with rfl | rfl | rfl
    · have OO : Hid (OwnS wo w.heap.size (.slice (some ⟨g0, 0, none⟩) n0 cap0) []) := O.out
      clear O
      have ix := ixR0
      go_wp2
      go_loopw [3, 16] (fun vo vi wr => ∃ (k g n cap : Nat), k ≤ ls.length ∧ vi = .int .i64 k ∧ vo = .slice (some ⟨g, 0, none⟩) n cap ∧ OwnS wr w.heap.size vo (usT [] ls k) ∧ Below w.heap.size w wr) (fun _ vi _ => ls.length - (intOf vi).toNat)
      case atStart => exact ⟨0, _, _, _, Nat.zero_le _, rfl, rfl, by rw [usT_zero]; exact OO.out, B.out⟩
      case round =>
        obtain ⟨k, g, n, cap, hk, rfl, rfl, ho, hb⟩ := hrel
        have O := hide ho
        have B := hide hb
        have NL := hide (usT_len [] ls k)
        have LN := hide ho.lenEq
        clear ho hb
        by_cases hlt : k < ls.length
        · obtain ⟨b, off, u, x, z, rfl, hx, _, c0, c1, c2⟩ := (RL.out.below B.out).at k hlt
          have hlt' : (k : Int) < (ls.length : Int) := by omega
          have HP := hide (HPls.out k hlt)
          have HX := hide hx
          clear hx
          have bx := below_box wr (.cells #[.bool u, .int .i64 x, .int .i64 z] 81)
          have OX := hide (rowsBelow O.out bx)
          have BX := hide (B.out.trans (bx.mono B.out.size))
          clear bx
          cases u with
          | false =>
            have hx0 : x = 0 ∧ z = 0 := by
              have h1 := HP.out
              rw [HX.out] at h1
              rcases h1 with h1 | h1
              · simpa [sl0] using h1
              · simp at h1
            obtain ⟨rfl, rfl⟩ := hx0
            have E := hide (usT_no [] ls k hlt HX.out)
            clear HP
            go_wp2
            refine ⟨⟨k + 1, g, n, cap, by omega, by go_num, rfl, ?_, BX.out⟩, by simp [intOf]; omega⟩
            rw [E.out]
            exact OX.out
          | true =>
            have E := hide (usT_yes [] ls k x z hlt HX.out)
            clear HP
            have o2 := rowsBelow OX.out (below_box _ (.cells #[.bool true, .int .i64 x, .int .i64 z] 81))
            have b2 := BX.out.trans ((below_box _ (.cells #[.bool true, .int .i64 x, .int .i64 z] 81)).mono BX.out.size)
            have O2 := hide o2
            have B2 := hide b2
            have SZ : Hid (w.heap.size ≤ (wr.alloc (.cells #[.bool true, .int .i64 x, .int .i64 z] 81)).heap.size) := BX.out.size
            clear o2 b2
            have RX : Hid (RdS ((wr.alloc (.cells #[.bool true, .int .i64 x, .int .i64 z] 81)).alloc (.cells #[.bool true, .int .i64 x, .int .i64 z] 81)) (.slice (some ⟨wr.heap.size + 1, 0, none⟩) 1 1) [(true, x, z)]) := by
              have h1 := rdS_one (w := wr.alloc (.cells #[.bool true, .int .i64 x, .int .i64 z] 81)) (u := true) (k := x) (z := z)
              rwa [World.size_alloc] at h1
            have hlen : (usT [] ls k).length + 1 ≤ 1048576 := by have := NL.out; simp at this; omega
            go_wp2_with (at_builtin; refine wpList_app_sls rfl _ _ rfl w.heap.size _ rfl (usT [] ls k) O2.out _ rfl [(true, x, z)] RX.out hlen (Nat.le_trans SZ.out (by simp)) ?_)
            intro v' w' ho' hg' hat
            clear hat
            obtain ⟨g', n', cap', rfl⟩ := own_form ho' (by simp)
            have b3 := B2.out.grown hg' B2.out.size (fun j hj => OwnS.low O2.out j hj)
            rw [← E.out] at ho'
            have O3 := hide ho'
            have B3 := hide b3
            clear ho' hg' b3
            go_wp2
            exact ⟨⟨k + 1, g', n', cap', by omega, by go_num, rfl, O3.out, B3.out⟩, by simp [intOf]; omega⟩
        · obtain rfl : k = ls.length := by omega
          have OE := O.out
          rw [usT_end, List.nil_append] at OE
          have OF := hide OE
          clear OE
          go_wp2
          exact ⟨⟨1, g, n, cap, ⟨by omega, by omega⟩, by go_num, rfl, OF.out, B.out⟩, by simp [intOf]⟩
    · have OO : Hid (OwnS wo w.heap.size (.slice (some ⟨g0, 0, none⟩) n0 cap0) (us ls)) := O.out
      clear O
      have UL := hide (us_len ls)
      have ix := ixR1
      go_wp2
      go_loopw [3, 16] (fun vo vi wr => ∃ (k g n cap : Nat), k ≤ rs.length ∧ vi = .int .i64 k ∧ vo = .slice (some ⟨g, 0, none⟩) n cap ∧ OwnS wr w.heap.size vo (usT (us ls) rs k) ∧ Below w.heap.size w wr) (fun _ vi _ => rs.length - (intOf vi).toNat)
      case atStart => exact ⟨0, _, _, _, Nat.zero_le _, rfl, rfl, by rw [usT_zero]; exact OO.out, B.out⟩
      case round =>
        obtain ⟨k, g, n, cap, hk, rfl, rfl, ho, hb⟩ := hrel
        have O := hide ho
        have B := hide hb
        have NL := hide (usT_len (us ls) rs k)
        have LN := hide ho.lenEq
        clear ho hb
        by_cases hlt : k < rs.length
        · obtain ⟨b, off, u, x, z, rfl, hx, _, c0, c1, c2⟩ := (RR.out.below B.out).at k hlt
          have hlt' : (k : Int) < (rs.length : Int) := by omega
          have HP := hide (HPrs.out k hlt)
          have HX := hide hx
          clear hx
          have bx := below_box wr (.cells #[.bool u, .int .i64 x, .int .i64 z] 81)
          have OX := hide (rowsBelow O.out bx)
          have BX := hide (B.out.trans (bx.mono B.out.size))
          clear bx
          cases u with
          | false =>
            have hx0 : x = 0 ∧ z = 0 := by
              have h1 := HP.out
              rw [HX.out] at h1
              rcases h1 with h1 | h1
              · simpa [sl0] using h1
              · simp at h1
            obtain ⟨rfl, rfl⟩ := hx0
            have E := hide (usT_no (us ls) rs k hlt HX.out)
            clear HP
            go_wp2
            refine ⟨⟨k + 1, g, n, cap, by omega, by go_num, rfl, ?_, BX.out⟩, by simp [intOf]; omega⟩
            rw [E.out]
            exact OX.out
          | true =>
            have E := hide (usT_yes (us ls) rs k x z hlt HX.out)
            clear HP
            have o2 := rowsBelow OX.out (below_box _ (.cells #[.bool true, .int .i64 x, .int .i64 z] 81))
            have b2 := BX.out.trans ((below_box _ (.cells #[.bool true, .int .i64 x, .int .i64 z] 81)).mono BX.out.size)
            have O2 := hide o2
            have B2 := hide b2
            have SZ : Hid (w.heap.size ≤ (wr.alloc (.cells #[.bool true, .int .i64 x, .int .i64 z] 81)).heap.size) := BX.out.size
            clear o2 b2
            have RX : Hid (RdS ((wr.alloc (.cells #[.bool true, .int .i64 x, .int .i64 z] 81)).alloc (.cells #[.bool true, .int .i64 x, .int .i64 z] 81)) (.slice (some ⟨wr.heap.size + 1, 0, none⟩) 1 1) [(true, x, z)]) := by
              have h1 := rdS_one (w := wr.alloc (.cells #[.bool true, .int .i64 x, .int .i64 z] 81)) (u := true) (k := x) (z := z)
              rwa [World.size_alloc] at h1
            have hlen : (usT (us ls) rs k).length + 1 ≤ 1048576 := by have h1 := NL.out; have h2 := UL.out; omega
            go_wp2_with (at_builtin; refine wpList_app_sls rfl _ _ rfl w.heap.size _ rfl (usT (us ls) rs k) O2.out _ rfl [(true, x, z)] RX.out hlen (Nat.le_trans SZ.out (by simp)) ?_)
            intro v' w' ho' hg' hat
            clear hat
            obtain ⟨g', n', cap', rfl⟩ := own_form ho' (by simp)
            have b3 := B2.out.grown hg' B2.out.size (fun j hj => OwnS.low O2.out j hj)
            rw [← E.out] at ho'
            have O3 := hide ho'
            have B3 := hide b3
            clear ho' hg' b3
            go_wp2
            exact ⟨⟨k + 1, g', n', cap', by omega, by go_num, rfl, O3.out, B3.out⟩, by simp [intOf]; omega⟩
        · obtain rfl : k = rs.length := by omega
          have OE := O.out
          rw [usT_end] at OE
          have OF := hide OE
          clear OE
          go_wp2
          exact ⟨⟨2, g, n, cap, ⟨by omega, by omega⟩, by go_num, rfl, OF.out, B.out⟩, by simp [intOf]⟩
    · have OO : Hid (OwnS wo w.heap.size (.slice (some ⟨g0, 0, none⟩) n0 cap0) (us ls ++ us rs)) := O.out
      have UL := us_len ls
      have UR := us_len rs
      have hz : (us ls ++ us rs).length ≤ 1048576 := by rw [List.length_append]; omega
      clear O UL UR
      go_wp2_with fail
      refine (sortSl_calls g0 cap0 n0 w.heap.size _ _ OO.out hz).mono ?_
      rintro e w2 ⟨rfl, ds, hp, hr, o2, g2⟩
      have O2 := hide o2
      have B2 := hide (B.out.grown g2 B.out.size (fun j hj => by obtain rfl := Option.some.inj hj; exact OO.out.low g0 rfl))
      have HPm := hide hp
      have HR := hide hr
      clear o2 g2 hp hr
      go_wp2
      go_ret
      exact ⟨⟨g0, n0, cap0, ds, rfl, O2.out, HPm.out, HR.out⟩, B2.out⟩
end Go.Proofs.Ytehjfjplajimfaa

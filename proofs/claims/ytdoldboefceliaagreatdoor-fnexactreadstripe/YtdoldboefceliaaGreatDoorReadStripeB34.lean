/-
  A stripe's health: the program's healthIn and HealthOf. Each contract says what it asks.
-/
import Derived.Test.YtdoldboefceliaaGreatDoorReadStripeB13
namespace Go.Proofs.YtdoldboefceliaaGreatDoor
open Go.RowKit
set_option linter.unusedVariables false

/-- The thing on top may grow, and memory with it. -/
theorem Hand.openTop {W w : World} {t : Tg} {L : List Tg} (A : Hand W w (t :: L)) : ∃ lo hi, t lo hi w ∧ lo ≤ hi ∧ hi ≤ w.heap.size ∧ W.heap.size ≤ lo ∧ ∀ w' t', Tg.st t' → t' lo w'.heap.size w' → Chg lo w.heap.size w w' → Hand W w' (t' :: L) := by
  obtain ⟨hb, lo, hi, ⟨s, x⟩, h1, h2, r⟩ := A
  refine ⟨lo, hi, x, h1, h2, r.base, fun w' t' hs k1 k2 => ?_⟩
  have sz := k2.size
  exact ⟨hb.trans (k2.below r.base hb.size), lo, w'.heap.size, ⟨hs, k1⟩, by omega, Nat.le_refl _, HeldG.chg k2 r (Nat.le_refl _)⟩
/-- Two rows of the call's own that lie apart. -/
structure Two (w : World) (lo hi : Nat) (u v : Value) (X Y : List Int) : Prop where
  a : Own w lo u X
  b : Own w lo v Y
  ta : ∀ k, u.ownBlock = some k → k < hi
  tb : ∀ k, v.ownBlock = some k → k < hi
  ne : u.ownBlock = none ∨ u.ownBlock ≠ v.ownBlock
def TTwo (u v : Value) (X Y : List Int) : Tg := fun lo hi w => Two w lo hi u v X Y
theorem TTwo.st (u v : Value) (X Y : List Int) : (TTwo u v X Y).st := fun lo hi a b w w' h hc hd => ⟨ownsRow_chg h.a h.ta hc hd, ownsRow_chg h.b h.tb hc hd, h.ta, h.tb, h.ne⟩
theorem Two.nil (w : World) (lo hi : Nat) : Two w lo hi (.slice none 0 0) (.slice none 0 0) [] [] :=
  ⟨World.ownsRow_nil _ _ _ _, World.ownsRow_nil _ _ _ _, fun k hk => by simp [Value.ownBlock] at hk, fun k hk => by simp [Value.ownBlock] at hk, .inl rfl⟩
theorem ne_swap {a b : Option Nat} (h : a = none ∨ a ≠ b) : b = none ∨ b ≠ a := by
  rcases h with h | h
  · cases b with
    | none => exact .inl rfl
    | some x => right; rw [h]; simp
  · exact .inr (fun e => h e.symm)
theorem Two.swap {w : World} {lo hi : Nat} {u v : Value} {X Y : List Int} (h : Two w lo hi u v X Y) : Two w lo hi v u Y X := ⟨h.b, h.a, h.tb, h.ta, ne_swap h.ne⟩
/-- The first row grows. -/
theorem Two.grow {w w' : World} {lo hi g n cap : Nat} {u v : Value} {X Y : List Int} {z : Int} (h : Two w lo hi u v X Y) (hh : hi ≤ w.heap.size)
    (h1 : w'.ownsRow lo 3 1 (.slice (some ⟨g, 0, none⟩) (n + 1) cap) (n + 1) (X.map (Value.int .i64) ++ [Value.int .i64 z])) (hn : X.length = n) (h2 : w.grownBy w' u.ownBlock) (h3 : u.ownBlock = some g ∨ g = w.heap.size) (h4 : g < w'.heap.size) :
    Two w' lo w'.heap.size (.slice (some ⟨g, 0, none⟩) (n + 1) cap) v (X ++ [z]) Y ∧ Chg lo w.heap.size w w' := by
  have hs : w.heap.size ≤ w'.heap.size := h2.size
  refine ⟨⟨?_, World.ownsRow.kept h.b h2 (ne_swap h.ne), fun k hk => ?_, fun k hk => ?_, .inr ?_⟩, Chg.ofGrown h2 fun k hk => ⟨row_low h.a k hk, by have := h.ta k hk; omega⟩⟩
  · show World.ownsRow _ _ _ _ _ (X ++ [z]).length _
    rw [List.length_append, hn, List.map_append]
    exact h1
  · simp [Value.ownBlock] at hk
    omega
  · have := h.tb k hk
    omega
  · show some g ≠ v.ownBlock
    rcases h3 with h3 | h3
    · rcases h.ne with e | e
      · rw [h3] at e; simp at e
      · rw [← h3]; exact e
    · intro e
      have := h.tb g e.symm
      omega

theorem hlInfo : (Tryz.prog.info? 45).map (·.size) = some 3 := by kernel_rfl
theorem res_hl {fn : Func} {x : Tmp} (hf : fn.results = #[.cell x 45]) (tmps : Array Value) (w : World) (g : Nat) (p h b : Value) (fr : Nat × Nat) (hp : tmps.getD x undef = .pointer (some ⟨g, 0, none⟩))
    (hg : w.heap[g]? = some (.cells #[p, h, b] 45 fr)) : (results fn tmps).run Tryz.prog w = .ok (.agg #[p, h, b]) w :=
  results_cell_row hf tmps w g _ _ fr _ hp hg Tryz.underlying45 rfl hlInfo
theorem res_hl2 {fn : Func} {x u : Tmp} (hf : fn.results = #[.cell x 45, .tmp u]) (tmps : Array Value) (w : World) (g : Nat) (p h b : Value) (fr : Nat × Nat) (hp : tmps.getD x undef = .pointer (some ⟨g, 0, none⟩))
    (hg : w.heap[g]? = some (.cells #[p, h, b] 45 fr)) : (results fn tmps).run Tryz.prog w = .ok (.tuple #[.agg #[p, h, b], tmps.getD u undef]) w := by
  have hp' : tmps[x]?.getD undef = .pointer (some ⟨g, 0, none⟩) := by simpa using hp
  simp [results, hf, hp', asAddr, run_loadVar_row w g _ _ _ fr _ hg Tryz.underlying45 rfl hlInfo]
theorem Hand.set3 {W w : World} {L : List Tg} {g : Nat} {a b c : Value} {T : TypeId} (h : Hand W w L) (i : Nat) (hi : L[i]? = some (TBox g #[a, b, c] T)) (j : Nat) (v : Value) : Hand W (w.setCell ⟨g, j, none⟩ v) (L.set i (TBox g (#[a, b, c].setIfInBounds j v) T)) := by
  obtain ⟨lo, hi', ⟨x1, x2, x3⟩, y1, y2, put⟩ := h.open i hi
  exact put _ _ (TBox.st _ _ _) ⟨x1, x2, x3.set j v⟩ (Chg.ofSetCell _ _ _ _ x1 x2)
theorem Hand.put3 {W w : World} {L : List Tg} {g : Nat} {a b c : Value} {T : TypeId} (h : Hand W w L) (i : Nat) (hi : L[i]? = some (TBox g #[a, b, c] T)) (v0 v1 v2 : Value) : Hand W (((w.setCell ⟨g, 0, none⟩ v0).setCell ⟨g, 1, none⟩ v1).setCell ⟨g, 2, none⟩ v2) (L.set i (TBox g #[v0, v1, v2] T)) := by
  obtain ⟨lo, hi', ⟨x1, x2, x3⟩, y1, y2, put⟩ := h.open i hi
  exact put _ _ (TBox.st _ _ _) ⟨x1, x2, x3.store3 v0 v1 v2⟩ (Chg.store3 _ _ _ _ _ x1 x2)

set_option maxRecDepth 100000 in
set_option maxHeartbeats 3200000 in
theorem healthIn_calls (v : Value) (xs : List Pc) (r : Int) (w : World) (h : RdP w v xs) (hok : ∀ k, okP (xs.getD k none)) (hl : xs.length ≤ 24) :
    Calls Tryz.prog 74 #[.agg #[v, .int .i64 r]] w fun e w' => ∃ vl vs, e = .returned (.agg #[vl, vs, .bool (decide ((losE (xs.map epo) xs.length).length = 0 ∧ (staE (xs.map epo) r xs.length).length = 0))]) ∧ Two w' w.heap.size w'.heap.size vl vs (losE (xs.map epo) xs.length) (staE (xs.map epo) r xs.length) ∧ Below w.heap.size w w' := by
  have R := hide h
  have OK := hide hok
  obtain ⟨a, cap, rfl, m1, _⟩ := h.sl
  clear h hok m1
  obtain ⟨lo, hlo⟩ : ∃ lo : Nat → List Int, lo = losE (xs.map epo) := ⟨_, rfl⟩
  obtain ⟨st, hst⟩ : ∃ st : Nat → List Int, st = staE (xs.map epo) r := ⟨_, rfl⟩
  have l0 : lo 0 = [] := by rw [hlo]; rfl
  have s0 : st 0 = [] := by rw [hst]; rfl
  have ls : ∀ k, k < xs.length → lo (k + 1) = if epo (xs.getD k none) < 0 then lo k ++ [(k : Int)] else lo k := by
    intro k hk
    rw [hlo]
    show (if decide ((xs.map epo).getD k 0 < 0) = true then _ else _) = _
    rw [map_getD xs k hk]
    simp only [decide_eq_true_eq]
    rfl
  have ss : ∀ k, k < xs.length → st (k + 1) = if 0 ≤ epo (xs.getD k none) ∧ ¬ epo (xs.getD k none) = r then st k ++ [(k : Int)] else st k := by
    intro k hk
    rw [hst]
    show (if decide (0 ≤ (xs.map epo).getD k 0 ∧ ¬ (xs.map epo).getD k 0 = r) = true then _ else _) = _
    rw [map_getD xs k hk]
    simp only [decide_eq_true_eq]
    rfl
  have ll : ∀ k, (lo k).length ≤ k := by intro k; rw [hlo]; exact pkE_le _ _ _
  have sl : ∀ k, (st k).length ≤ k := by intro k; rw [hst]; exact pkE_le _ _ _
  rw [← hlo, ← hst]
  have L0 := hide l0
  have S0 := hide s0
  have LS := hide ls
  have SS := hide ss
  have LL := hide ll
  have SL := hide sl
  clear hlo hst l0 s0 ls ss ll sl
  obtain ⟨rr, hr⟩ : ∃ rr : Bool, rr = decide ((lo xs.length).length = 0 ∧ (st xs.length).length = 0) := ⟨_, rfl⟩
  rw [← hr]
  have HR := hide hr
  clear hr
  have A0 : Hid (Hand w (((w.alloc (.cells #[.slice a xs.length cap, .int .i64 r] 78)).alloc (.cells #[.slice none 0 0, .slice none 0 0, .bool false] 45)).alloc (.cells #[.slice none 0 0, .slice none 0 0, .bool false] 45)) [TTwo (.slice none 0 0) (.slice none 0 0) [] [], TBox (w.heap.size + 1 + 1) #[.slice none 0 0, .slice none 0 0, .bool false] 45, TBox (w.heap.size + 1) #[.slice none 0 0, .slice none 0 0, .bool false] 45, TBox w.heap.size #[.slice a xs.length cap, .int .i64 r] 78]) := by
    show Hand _ _ _
    have := ((((Hand.start w).box #[.slice a xs.length cap, .int .i64 r] 78).box #[.slice none 0 0, .slice none 0 0, .bool false] 45).box #[.slice none 0 0, .slice none 0 0, .bool false] 45).add (Below.refl _ _) (TTwo.st (.slice none 0 0) (.slice none 0 0) [] []) (Two.nil _ _ _)
    simpa using this
  go_enter Tryz.func74, Tryz.ntmps74
  go_wp2
  go_loopw [4, 5, 6, 7, 12] (fun _ _ _ _ vi wr => ∃ (k : Nat) (vl vs : Value), k ≤ xs.length ∧ vi = .int .i64 k ∧ Hand w wr [TTwo vl vs (lo k) (st k), TBox (w.heap.size + 1 + 1) #[vl, vs, .bool false] 45, TBox (w.heap.size + 1) #[.slice none 0 0, .slice none 0 0, .bool false] 45, TBox w.heap.size #[.slice a xs.length cap, .int .i64 r] 78]) (fun _ _ _ _ vi _ => xs.length - (intOf vi).toNat)
  case atStart =>
    refine ⟨0, .slice none 0 0, .slice none 0 0, Nat.zero_le _, rfl, ?_⟩
    rw [L0.out, S0.out]
    exact A0.out
  case round =>
    clear A0
    obtain ⟨k, vl, vs, hk, rfl, hH⟩ := hrel
    have AH := hide hH
    obtain ⟨zl, zh, tw⟩ := hH.get 0 rfl
    obtain ⟨al, cl, rfl⟩ := row_slice tw.a
    obtain ⟨asx, csx, rfl⟩ := row_slice tw.b
    clear tw hH zl zh
    have l1 := LL.out k
    have s1 := SL.out k
    by_cases hlt : k < xs.length
    · obtain ⟨gb, off, rfl, hc, _⟩ := (R.out.below AH.out.below).cell k hlt
      have hlt' : (k : Int) < (xs.length : Int) := by omega
      have E1 := hide (LS.out k hlt)
      have E2 := hide (SS.out k hlt)
      have O := hide (OK.out k)
      generalize xs.getD k none = x at hc E1 E2 O
      cases x with
      | none =>
        have e1 : Hid (lo (k + 1) = lo k ++ [(k : Int)]) := by show _ = _; rw [E1.out, if_pos (by simp [epo])]
        have e2 : Hid (st (k + 1) = st k) := by show _ = _; rw [E2.out, if_neg (by simp [epo])]
        clear E1 E2 O
        have hc' : wr.cell? ⟨gb, off + k, none⟩ = some (.iface 140 (.agg #[])) := hc
        clear hc
        have f1 := asL_yes (.agg #[])
        have A1 := hide ((AH.out.step (below_box wr (.cells #[] 140))).step (below_box _ (.cells #[.int .i64 (k : Int)] 3)))
        obtain ⟨b0, b1, b2⟩ := ((AH.out.step (below_box wr (.cells #[] 140))).atBox 1 rfl).c3
        have hcn : ((wr.alloc (.cells #[] 140)).alloc (.cells #[.int .i64 (k : Int)] 3)).cell? ⟨wr.heap.size + 1, 0, none⟩ = some (.int .i64 (k : Int)) := by
          simp
        obtain ⟨zl, zh, tw, t1, t2, t3, put⟩ := A1.out.openTop
        have TW := hide tw
        have PUT := hide put
        clear tw put
        go_wp2_with (at_builtin; refine wpList_append_int1 rfl _ _ rfl zl _ (lo k).length (lo k) k rfl TW.out.a (wr.heap.size + 1) rfl hcn (by omega) (by omega) ?_)
        intro g2 cap2 w2 o2 p2 q2 r2
        obtain ⟨tw2, ch2⟩ := TW.out.grow t2 o2 rfl p2 (by simpa using q2) r2
        have A2 := hide (PUT.out w2 (TTwo _ _ _ _) (TTwo.st _ _ _ _) tw2 ch2)
        have A3 := hide (A2.out.set3 1 rfl 0 (.slice (some ⟨g2, 0, none⟩) ((lo k).length + 1) cap2))
        obtain ⟨d0, d1, d2⟩ := (A2.out.atBox 1 rfl).c3
        have e0 := (A2.out.atBox 1 rfl).frozen 0
        clear o2 p2 q2 r2 tw2 ch2 TW PUT hcn A1 AH b0 b1 b2 A2
        go_wp2
        go_roundw
        case rel =>
          refine ⟨k + 1, .slice (some ⟨g2, 0, none⟩) ((lo k).length + 1) cap2, .slice asx (st k).length csx, by omega, by go_num, ?_⟩
          rw [e1.out, e2.out]
          have := A3.out
          simpa using this
        case measure => simp [intOf]; omega
      | some y =>
        obtain ⟨E, bo⟩ := y
        have y0 := (O.out _ rfl).1.1
        have e1 : Hid (lo (k + 1) = lo k) := by show _ = _; rw [E1.out, if_neg (by simp only [epo]; omega)]
        have E2' : Hid (st (k + 1) = if 0 ≤ E ∧ ¬ E = r then st k ++ [(k : Int)] else st k) := E2.out
        clear E1 E2 O
        have hc' : wr.cell? ⟨gb, off + k, none⟩ = some (.iface 142 (.agg #[.int .i64 E, .string bo])) := hc
        clear hc
        have f1 := asL_no (.agg #[.int .i64 E, .string bo])
        have f2 := asF_yes (.agg #[.int .i64 E, .string bo])
        have A1 := hide (AH.out.step (below_box wr (.cells #[.int .i64 E, .string bo] 142)))
        have sx := AH.out.atBox 3 rfl
        have sx1 : wr.cell? ⟨w.heap.size, 1, none⟩ = some (.int .i64 r) := sx.cell 1
        have sxl := sx.lt
        have sx2 : (wr.alloc (.cells #[.int .i64 E, .string bo] 142)).cell? ⟨w.heap.size, 1, none⟩ = some (.int .i64 r) := (A1.out.atBox 3 rfl).cell 1
        have cx0 : (wr.alloc (.cells #[.int .i64 E, .string bo] 142)).cell? ⟨wr.heap.size, 0, none⟩ = some (.int .i64 E) := (BoxAt.new wr #[.int .i64 E, .string bo] 142).cell 0
        clear sx
        by_cases hE : E = r
        · have e2 : Hid (st (k + 1) = st k) := by show _ = _; rw [E2'.out, if_neg (fun h => h.2 hE)]
          subst hE
          clear E2'
          go_wp2
          go_roundw
          case rel =>
            refine ⟨k + 1, .slice al (lo k).length cl, .slice asx (st k).length csx, by omega, by go_num, ?_⟩
            rw [e1.out, e2.out]
            exact A1.out
          case measure => simp [intOf]; omega
        · have e2 : Hid (st (k + 1) = st k ++ [(k : Int)]) := by show _ = _; rw [E2'.out, if_pos ⟨y0, hE⟩]
          have hE' : (E == r) = false := by simpa using hE
          have hE2 : (E != r) = true := by simpa using hE
          clear E2'
          have A2 := hide (A1.out.step (below_box _ (.cells #[.int .i64 (k : Int)] 3)))
          obtain ⟨b0, b1, b2⟩ := (A1.out.atBox 1 rfl).c3
          have hcn : ((wr.alloc (.cells #[.int .i64 E, .string bo] 142)).alloc (.cells #[.int .i64 (k : Int)] 3)).cell? ⟨wr.heap.size + 1, 0, none⟩ = some (.int .i64 (k : Int)) := by
            simp
          obtain ⟨zl, zh, tw, t1, t2, t3, put⟩ := A2.out.openTop
          have TW := hide tw
          have PUT := hide put
          clear tw put
          go_wp2_with (at_builtin; refine wpList_append_int1 rfl _ _ rfl zl _ (st k).length (st k) k rfl TW.out.b (wr.heap.size + 1) rfl hcn (by omega) (by omega) ?_)
          intro g2 cap2 w2 o2 p2 q2 r2
          obtain ⟨tw2, ch2⟩ := TW.out.swap.grow t2 o2 rfl p2 (by simpa using q2) r2
          have A3 := hide (PUT.out w2 (TTwo _ _ _ _) (TTwo.st _ _ _ _) tw2.swap ch2)
          have A4 := hide (A3.out.set3 1 rfl 1 (.slice (some ⟨g2, 0, none⟩) ((st k).length + 1) cap2))
          obtain ⟨d0, d1, d2⟩ := (A3.out.atBox 1 rfl).c3
          have e0 := (A3.out.atBox 1 rfl).frozen 1
          clear o2 p2 q2 r2 tw2 ch2 TW PUT hcn A1 A2 AH b0 b1 b2 A3
          go_wp2
          go_roundw
          case rel =>
            refine ⟨k + 1, .slice al (lo k).length cl, .slice (some ⟨g2, 0, none⟩) ((st k).length + 1) cap2, by omega, by go_num, ?_⟩
            rw [e1.out, e2.out]
            have := A4.out
            simpa using this
          case measure => simp [intOf]; omega
    · obtain rfl : k = xs.length := by omega
      have TT : Hid (∃ lo' hi', Two wr lo' hi' (.slice al (lo xs.length).length cl) (.slice asx (st xs.length).length csx) (lo xs.length) (st xs.length)) := AH.out.get 0 rfl
      obtain ⟨b0, b1, b2⟩ := (AH.out.atBox 1 rfl).c3
      have f2 := (AH.out.atBox 1 rfl).frozen 2
      have A1 := hide ((AH.out.set3 1 rfl 2 (.bool rr)).put3 2 rfl (.slice al (lo xs.length).length cl) (.slice asx (st xs.length).length csx) (.bool rr))
      obtain ⟨x0, x1, x2⟩ := ((AH.out.set3 1 rfl 2 (.bool rr)).atBox 1 rfl).c3
      obtain ⟨d0, d1, d2⟩ := ((AH.out.set3 1 rfl 2 (.bool rr)).atBox 2 rfl).c3
      have g0 := ((AH.out.set3 1 rfl 2 (.bool rr)).atBox 2 rfl).frozen 0
      have g1 := ((AH.out.set3 1 rfl 2 (.bool rr)).atBox 2 rfl).frozen 1
      have g2 := ((AH.out.set3 1 rfl 2 (.bool rr)).atBox 2 rfl).frozen 2
      clear TT
      generalize hnl : (lo xs.length).length = nl at *
      generalize hns : (st xs.length).length = ns at *
      have HNL := hide hnl
      have HNS := hide hns
      clear hnl hns
      have fin : Hid (∀ W, W = (((wr.setCell ⟨w.heap.size + 1 + 1, 2, none⟩ (.bool rr)).setCell ⟨w.heap.size + 1, 0, none⟩ (.slice al nl cl)).setCell ⟨w.heap.size + 1, 1, none⟩ (.slice asx ns csx)).setCell ⟨w.heap.size + 1, 2, none⟩ (.bool rr) → BoxAt W (w.heap.size + 1) #[.slice al nl cl, .slice asx ns csx, .bool rr] 45 ∧ Two W w.heap.size W.heap.size (.slice al nl cl) (.slice asx ns csx) (lo xs.length) (st xs.length) ∧ Below w.heap.size w W) := by
        rintro W rfl
        refine ⟨A1.out.atBox 2 rfl, ?_, A1.out.below⟩
        obtain ⟨z1, z2, tt, z3, z4, _⟩ := A1.out.open 0 rfl
        exact ⟨ownsRow_mono tt.a z3, ownsRow_mono tt.b z3, fun k hk => Nat.lt_of_lt_of_le (tt.ta k hk) z4, fun k hk => Nat.lt_of_lt_of_le (tt.tb k hk) z4, tt.ne⟩
      by_cases h1 : nl = 0
      · by_cases h2 : ns = 0
        · have er : rr = true := by rw [HR.out]; exact decide_eq_true ⟨h1, h2⟩
          subst er
          subst h1
          subst h2
          go_wp2
          obtain ⟨y1, y2, y3⟩ := fin.out _ rfl
          exact bodyPost_ret (res_hl rfl _ _ (w.heap.size + 1) _ _ _ (0, 0) rfl y1) rfl ⟨_, _, rfl, y2, y3⟩
        · have er : rr = false := by rw [HR.out]; exact decide_eq_false (fun h => h2 h.2)
          subst er
          subst h1
          have h2' : ¬ (ns : Int) = 0 := by omega
          have h2'' : ((ns : Int) == 0) = false := by simpa using h2'
          go_wp2
          obtain ⟨y1, y2, y3⟩ := fin.out _ rfl
          exact bodyPost_ret (res_hl rfl _ _ (w.heap.size + 1) _ _ _ (0, 0) rfl y1) rfl ⟨_, _, rfl, y2, y3⟩
      · have er : rr = false := by rw [HR.out]; exact decide_eq_false (fun h => h1 h.1)
        subst er
        have h1' : ¬ (nl : Int) = 0 := by omega
        have h1'' : ((nl : Int) == 0) = false := by simpa using h1'
        go_wp2
        obtain ⟨y1, y2, y3⟩ := fin.out _ rfl
        exact bodyPost_ret (res_hl rfl _ _ (w.heap.size + 1) _ _ _ (0, 0) rfl y1) rfl ⟨_, _, rfl, y2, y3⟩
end Go.Proofs.YtdoldboefceliaaGreatDoor

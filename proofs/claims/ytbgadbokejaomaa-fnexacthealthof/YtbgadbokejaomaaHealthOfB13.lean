/-
  A stripe's health: the program's healthIn and HealthOf. Each contract says what it asks. What a sector tells, by the model: l7Read, call by call. The contract says what it asks. The laws' own small functions over rows of integers (how great, copied, compared, marked, looked whether the marks are held), call by call. Each contract says what it asks. Elements of the field in lists: which integers are elements, which lists hold elements alone, which integers lie between two: the program's functions and its model's, call by call; memory stays as it was. No condition. Which rows of rows are matrices: the program's function and its model's, call by call: both answer 'goodM'. No condition. Rows made: 'append(out, row)', new rows of noughts, copies of a list, the identity: the program's functions and its model's, call by call. Each contract says what it asks.
-/
import Derived.Test.YtbgadbokejaomaaHealthOfB12
import Derived.Test.YtbgadbokejaomaaHealthOfB11
import Derived.Test.YtbgadbokejaomaaHealthOfB5
import Derived.Test.YtbgadbokejaomaaHealthOfB4
import Derived.Deep.RegionWith
namespace Go.Proofs.Ytbgadbokejaomaa
open Go.RowKit
set_option linter.unusedVariables false

/-- The thing on top may grow, and memory with it. -/
theorem Hand.openTop {W w : World} {t : Tg} {L : List Tg} (A : Hand W w (t :: L)) : ∃ lo hi, t lo hi w ∧ lo ≤ hi ∧ hi ≤ w.heap.size ∧ W.heap.size ≤ lo ∧ ∀ w' t', Tg.st t' → t' lo w'.heap.size w' → Chg lo w.heap.size w w' → Hand W w' (t' :: L) := by
  obtain ⟨hb, lo, hi, ⟨s, x⟩, h1, h2, r⟩ := A
  refine ⟨lo, hi, x, h1, h2, r.base, fun w' t' hs k1 k2 => ?_⟩
  have sz := k2.size
  exact ⟨hb.trans (k2.below r.base hb.size), lo, w'.heap.size, ⟨hs, k1⟩, by omega, Nat.le_refl _, HeldG.chg k2 r (Nat.le_refl _)⟩
/-- Two rows of the call's own that lie apart. -/
structure Two (w : World) (lo hi : Nat) (u v : Value) (X Y : List Int) : Prop where
  a : Own w lo u X
  b : Own w lo v Y
  ta : ∀ k, u.ownBlock = some k → k < hi
  tb : ∀ k, v.ownBlock = some k → k < hi
  ne : u.ownBlock = none ∨ u.ownBlock ≠ v.ownBlock
def TTwo (u v : Value) (X Y : List Int) : Tg := fun lo hi w => Two w lo hi u v X Y
theorem TTwo.st (u v : Value) (X Y : List Int) : (TTwo u v X Y).st := fun lo hi a b w w' h hc hd => ⟨ownsRow_chg h.a h.ta hc hd, ownsRow_chg h.b h.tb hc hd, h.ta, h.tb, h.ne⟩
theorem Two.nil (w : World) (lo hi : Nat) : Two w lo hi (.slice none 0 0) (.slice none 0 0) [] [] :=
  ⟨World.ownsRow_nil _ _ _ _, World.ownsRow_nil _ _ _ _, fun k hk => by simp [Value.ownBlock] at hk, fun k hk => by simp [Value.ownBlock] at hk, .inl rfl⟩
theorem ne_swap {a b : Option Nat} (h : a = none ∨ a ≠ b) : b = none ∨ b ≠ a := by
  rcases h with h | h
  · cases b with
    | none => exact .inl rfl
    | some x => right; rw [h]; simp
  · exact .inr (fun e => h e.symm)
theorem Two.swap {w : World} {lo hi : Nat} {u v : Value} {X Y : List Int} (h : Two w lo hi u v X Y) : Two w lo hi v u Y X := ⟨h.b, h.a, h.tb, h.ta, ne_swap h.ne⟩
/-- The first row grows. -/
theorem Two.grow {w w' : World} {lo hi g n cap : Nat} {u v : Value} {X Y : List Int} {z : Int} (h : Two w lo hi u v X Y) (hh : hi ≤ w.heap.size)
    (h1 : w'.ownsRow lo 3 1 (.slice (some ⟨g, 0, none⟩) (n + 1) cap) (n + 1) (X.map (Value.int .i64) ++ [Value.int .i64 z])) (hn : X.length = n) (h2 : w.grownBy w' u.ownBlock) (h3 : u.ownBlock = some g ∨ g = w.heap.size) (h4 : g < w'.heap.size) :
    Two w' lo w'.heap.size (.slice (some ⟨g, 0, none⟩) (n + 1) cap) v (X ++ [z]) Y ∧ Chg lo w.heap.size w w' := by
  have hs : w.heap.size ≤ w'.heap.size := h2.size
  refine ⟨⟨?_, World.ownsRow.kept h.b h2 (ne_swap h.ne), fun k hk => ?_, fun k hk => ?_, .inr ?_⟩, Chg.ofGrown h2 fun k hk => ⟨row_low h.a k hk, by have := h.ta k hk; omega⟩⟩
  · show World.ownsRow _ _ _ _ _ (X ++ [z]).length _
    rw [List.length_append, hn, List.map_append]
    exact h1
  · simp [Value.ownBlock] at hk
    omega
  · have := h.tb k hk
    omega
  · show some g ≠ v.ownBlock
    rcases h3 with h3 | h3
    · rcases h.ne with e | e
      · rw [h3] at e; simp at e
      · rw [← h3]; exact e
    · intro e
      have := h.tb g e.symm
      omega

theorem hlInfo : (Try.prog.info? 29).map (·.size) = some 3 := by kernel_rfl
theorem res_hl {fn : Func} {x : Tmp} (hf : fn.results = #[.cell x 29]) (tmps : Array Value) (w : World) (g : Nat) (p h b : Value) (fr : Nat × Nat) (hp : tmps.getD x undef = .pointer (some ⟨g, 0, none⟩))
    (hg : w.heap[g]? = some (.cells #[p, h, b] 29 fr)) : (results fn tmps).run Try.prog w = .ok (.agg #[p, h, b]) w :=
  results_cell_row hf tmps w g _ _ fr _ hp hg Try.underlying29 rfl hlInfo
theorem res_hl2 {fn : Func} {x u : Tmp} (hf : fn.results = #[.cell x 29, .tmp u]) (tmps : Array Value) (w : World) (g : Nat) (p h b : Value) (fr : Nat × Nat) (hp : tmps.getD x undef = .pointer (some ⟨g, 0, none⟩))
    (hg : w.heap[g]? = some (.cells #[p, h, b] 29 fr)) : (results fn tmps).run Try.prog w = .ok (.tuple #[.agg #[p, h, b], tmps.getD u undef]) w := by
  have hp' : tmps[x]?.getD undef = .pointer (some ⟨g, 0, none⟩) := by simpa using hp
  simp [results, hf, hp', asAddr, run_loadVar_row w g _ _ _ fr _ hg Try.underlying29 rfl hlInfo]
theorem Hand.set3 {W w : World} {L : List Tg} {g : Nat} {a b c : Value} {T : TypeId} (h : Hand W w L) (i : Nat) (hi : L[i]? = some (TBox g #[a, b, c] T)) (j : Nat) (v : Value) : Hand W (w.setCell ⟨g, j, none⟩ v) (L.set i (TBox g (#[a, b, c].setIfInBounds j v) T)) := by
  obtain ⟨lo, hi', ⟨x1, x2, x3⟩, y1, y2, put⟩ := h.open i hi
  exact put _ _ (TBox.st _ _ _) ⟨x1, x2, x3.set j v⟩ (Chg.ofSetCell _ _ _ _ x1 x2)
theorem Hand.put3 {W w : World} {L : List Tg} {g : Nat} {a b c : Value} {T : TypeId} (h : Hand W w L) (i : Nat) (hi : L[i]? = some (TBox g #[a, b, c] T)) (v0 v1 v2 : Value) : Hand W (((w.setCell ⟨g, 0, none⟩ v0).setCell ⟨g, 1, none⟩ v1).setCell ⟨g, 2, none⟩ v2) (L.set i (TBox g #[v0, v1, v2] T)) := by
  obtain ⟨lo, hi', ⟨x1, x2, x3⟩, y1, y2, put⟩ := h.open i hi
  exact put _ _ (TBox.st _ _ _) ⟨x1, x2, x3.store3 v0 v1 v2⟩ (Chg.store3 _ _ _ _ _ x1 x2)

set_option maxRecDepth 100000 in
set_option maxHeartbeats 3200000 in
theorem healthIn_calls (v : Value) (xs : List Pc) (r : Int) (w : World) (h : RdP w v xs) (hok : ∀ k, okP (xs.getD k none)) (hl : xs.length ≤ 24) :
    Calls Try.prog 22 #[.agg #[v, .int .i64 r]] w fun e w' => ∃ vl vs, e = .returned (.agg #[vl, vs, .bool (decide ((losE (xs.map epo) xs.length).length = 0 ∧ (staE (xs.map epo) r xs.length).length = 0))]) ∧ Two w' w.heap.size w'.heap.size vl vs (losE (xs.map epo) xs.length) (staE (xs.map epo) r xs.length) ∧ Below w.heap.size w w' := by
  have R := hide h
  have OK := hide hok
  obtain ⟨a, cap, rfl, m1, _⟩ := h.sl
  clear h hok m1
  obtain ⟨lo, hlo⟩ : ∃ lo : Nat → List Int, lo = losE (xs.map epo) := ⟨_, rfl⟩
  obtain ⟨st, hst⟩ : ∃ st : Nat → List Int, st = staE (xs.map epo) r := ⟨_, rfl⟩
  have l0 : lo 0 = [] := by rw [hlo]; rfl
  have s0 : st 0 = [] := by rw [hst]; rfl
  have ls : ∀ k, k < xs.length → lo (k + 1) = if epo (xs.getD k none) < 0 then lo k ++ [(k : Int)] else lo k := by
    intro k hk
    rw [hlo]
    show (if decide ((xs.map epo).getD k 0 < 0) = true then _ else _) = _
    rw [map_getD xs k hk]
    simp only [decide_eq_true_eq]
    rfl
  have ss : ∀ k, k < xs.length → st (k + 1) = if 0 ≤ epo (xs.getD k none) ∧ ¬ epo (xs.getD k none) = r then st k ++ [(k : Int)] else st k := by
    intro k hk
    rw [hst]
    show (if decide (0 ≤ (xs.map epo).getD k 0 ∧ ¬ (xs.map epo).getD k 0 = r) = true then _ else _) = _
    rw [map_getD xs k hk]
    simp only [decide_eq_true_eq]
    rfl
  have ll : ∀ k, (lo k).length ≤ k := by intro k; rw [hlo]; exact pkE_le _ _ _
  have sl : ∀ k, (st k).length ≤ k := by intro k; rw [hst]; exact pkE_le _ _ _
  rw [← hlo, ← hst]
  have L0 := hide l0
  have S0 := hide s0
  have LS := hide ls
  have SS := hide ss
  have LL := hide ll
  have SL := hide sl
  clear hlo hst l0 s0 ls ss ll sl
  obtain ⟨rr, hr⟩ : ∃ rr : Bool, rr = decide ((lo xs.length).length = 0 ∧ (st xs.length).length = 0) := ⟨_, rfl⟩
  rw [← hr]
  have HR := hide hr
  clear hr
  have A0 : Hid (Hand w (((w.alloc (.cells #[.slice a xs.length cap, .int .i64 r] 52)).alloc (.cells #[.slice none 0 0, .slice none 0 0, .bool false] 29)).alloc (.cells #[.slice none 0 0, .slice none 0 0, .bool false] 29)) [TTwo (.slice none 0 0) (.slice none 0 0) [] [], TBox (w.heap.size + 1 + 1) #[.slice none 0 0, .slice none 0 0, .bool false] 29, TBox (w.heap.size + 1) #[.slice none 0 0, .slice none 0 0, .bool false] 29, TBox w.heap.size #[.slice a xs.length cap, .int .i64 r] 52]) := by
    show Hand _ _ _
    have := ((((Hand.start w).box #[.slice a xs.length cap, .int .i64 r] 52).box #[.slice none 0 0, .slice none 0 0, .bool false] 29).box #[.slice none 0 0, .slice none 0 0, .bool false] 29).add (Below.refl _ _) (TTwo.st (.slice none 0 0) (.slice none 0 0) [] []) (Two.nil _ _ _)
    simpa using this
  go_enter Try.func22, Try.ntmps22
  go_wp2
  go_loopw [4, 5, 6, 7, 12] (fun _ _ _ _ vi wr => ∃ (k : Nat) (vl vs : Value), k ≤ xs.length ∧ vi = .int .i64 k ∧ Hand w wr [TTwo vl vs (lo k) (st k), TBox (w.heap.size + 1 + 1) #[vl, vs, .bool false] 29, TBox (w.heap.size + 1) #[.slice none 0 0, .slice none 0 0, .bool false] 29, TBox w.heap.size #[.slice a xs.length cap, .int .i64 r] 52]) (fun _ _ _ _ vi _ => xs.length - (intOf vi).toNat)
  case atStart =>
    refine ⟨0, .slice none 0 0, .slice none 0 0, Nat.zero_le _, rfl, ?_⟩
    rw [L0.out, S0.out]
    exact A0.out
  case round =>
    clear A0
    obtain ⟨k, vl, vs, hk, rfl, hH⟩ := hrel
    have AH := hide hH
    obtain ⟨zl, zh, tw⟩ := hH.get 0 rfl
    obtain ⟨al, cl, rfl⟩ := row_slice tw.a
    obtain ⟨asx, csx, rfl⟩ := row_slice tw.b
    clear tw hH zl zh
    have l1 := LL.out k
    have s1 := SL.out k
    by_cases hlt : k < xs.length
    · obtain ⟨gb, off, rfl, hc, _⟩ := (R.out.below AH.out.below).cell k hlt
      have hlt' : (k : Int) < (xs.length : Int) := by omega
      have E1 := hide (LS.out k hlt)
      have E2 := hide (SS.out k hlt)
      have O := hide (OK.out k)
      generalize xs.getD k none = x at hc E1 E2 O
      cases x with
      | none =>
        have e1 : Hid (lo (k + 1) = lo k ++ [(k : Int)]) := by show _ = _; rw [E1.out, if_pos (by simp [epo])]
        have e2 : Hid (st (k + 1) = st k) := by show _ = _; rw [E2.out, if_neg (by simp [epo])]
        clear E1 E2 O
        have hc' : wr.cell? ⟨gb, off + k, none⟩ = some (.iface 71 (.agg #[])) := hc
        clear hc
        have f1 := asL_yes (.agg #[])
        have A1 := hide ((AH.out.step (below_box wr (.cells #[] 71))).step (below_box _ (.cells #[.int .i64 (k : Int)] 3)))
        obtain ⟨b0, b1, b2⟩ := ((AH.out.step (below_box wr (.cells #[] 71))).atBox 1 rfl).c3
        have hcn : ((wr.alloc (.cells #[] 71)).alloc (.cells #[.int .i64 (k : Int)] 3)).cell? ⟨wr.heap.size + 1, 0, none⟩ = some (.int .i64 (k : Int)) := by
          simp
        obtain ⟨zl, zh, tw, t1, t2, t3, put⟩ := A1.out.openTop
        have TW := hide tw
        have PUT := hide put
        clear tw put
        go_wp2_with (at_builtin; refine wpList_append_int1 rfl _ _ rfl zl _ (lo k).length (lo k) k rfl TW.out.a (wr.heap.size + 1) rfl hcn (by omega) (by omega) ?_)
        intro g2 cap2 w2 o2 p2 q2 r2
        obtain ⟨tw2, ch2⟩ := TW.out.grow t2 o2 rfl p2 (by simpa using q2) r2
        have A2 := hide (PUT.out w2 (TTwo _ _ _ _) (TTwo.st _ _ _ _) tw2 ch2)
        have A3 := hide (A2.out.set3 1 rfl 0 (.slice (some ⟨g2, 0, none⟩) ((lo k).length + 1) cap2))
        obtain ⟨d0, d1, d2⟩ := (A2.out.atBox 1 rfl).c3
        have e0 := (A2.out.atBox 1 rfl).frozen 0
        clear o2 p2 q2 r2 tw2 ch2 TW PUT hcn A1 AH b0 b1 b2 A2
        go_wp2
        go_roundw
        case rel =>
          refine ⟨k + 1, .slice (some ⟨g2, 0, none⟩) ((lo k).length + 1) cap2, .slice asx (st k).length csx, by omega, by go_num, ?_⟩
          rw [e1.out, e2.out]
          have := A3.out
          simpa using this
        case measure => simp [intOf]; omega
      | some y =>
        obtain ⟨E, bo⟩ := y
        have y0 := (O.out _ rfl).1.1
        have e1 : Hid (lo (k + 1) = lo k) := by show _ = _; rw [E1.out, if_neg (by simp only [epo]; omega)]
        have E2' : Hid (st (k + 1) = if 0 ≤ E ∧ ¬ E = r then st k ++ [(k : Int)] else st k) := E2.out
        clear E1 E2 O
        have hc' : wr.cell? ⟨gb, off + k, none⟩ = some (.iface 73 (.agg #[.int .i64 E, .string bo])) := hc
        clear hc
        have f1 := asL_no (.agg #[.int .i64 E, .string bo])
        have f2 := asF_yes (.agg #[.int .i64 E, .string bo])
        have A1 := hide (AH.out.step (below_box wr (.cells #[.int .i64 E, .string bo] 73)))
        have sx := AH.out.atBox 3 rfl
        have sx1 : wr.cell? ⟨w.heap.size, 1, none⟩ = some (.int .i64 r) := sx.cell 1
        have sxl := sx.lt
        have sx2 : (wr.alloc (.cells #[.int .i64 E, .string bo] 73)).cell? ⟨w.heap.size, 1, none⟩ = some (.int .i64 r) := (A1.out.atBox 3 rfl).cell 1
        have cx0 : (wr.alloc (.cells #[.int .i64 E, .string bo] 73)).cell? ⟨wr.heap.size, 0, none⟩ = some (.int .i64 E) := (BoxAt.new wr #[.int .i64 E, .string bo] 73).cell 0
        clear sx
        by_cases hE : E = r
        · have e2 : Hid (st (k + 1) = st k) := by show _ = _; rw [E2'.out, if_neg (fun h => h.2 hE)]
          subst hE
          clear E2'
          go_wp2
          go_roundw
          case rel =>
            refine ⟨k + 1, .slice al (lo k).length cl, .slice asx (st k).length csx, by omega, by go_num, ?_⟩
            rw [e1.out, e2.out]
            exact A1.out
          case measure => simp [intOf]; omega
        · have e2 : Hid (st (k + 1) = st k ++ [(k : Int)]) := by show _ = _; rw [E2'.out, if_pos ⟨y0, hE⟩]
          have hE' : (E == r) = false := by simpa using hE
          have hE2 : (E != r) = true := by simpa using hE
          clear E2'
          have A2 := hide (A1.out.step (below_box _ (.cells #[.int .i64 (k : Int)] 3)))
          obtain ⟨b0, b1, b2⟩ := (A1.out.atBox 1 rfl).c3
          have hcn : ((wr.alloc (.cells #[.int .i64 E, .string bo] 73)).alloc (.cells #[.int .i64 (k : Int)] 3)).cell? ⟨wr.heap.size + 1, 0, none⟩ = some (.int .i64 (k : Int)) := by
            simp
          obtain ⟨zl, zh, tw, t1, t2, t3, put⟩ := A2.out.openTop
          have TW := hide tw
          have PUT := hide put
          clear tw put
          go_wp2_with (at_builtin; refine wpList_append_int1 rfl _ _ rfl zl _ (st k).length (st k) k rfl TW.out.b (wr.heap.size + 1) rfl hcn (by omega) (by omega) ?_)
          intro g2 cap2 w2 o2 p2 q2 r2
          obtain ⟨tw2, ch2⟩ := TW.out.swap.grow t2 o2 rfl p2 (by simpa using q2) r2
          have A3 := hide (PUT.out w2 (TTwo _ _ _ _) (TTwo.st _ _ _ _) tw2.swap ch2)
          have A4 := hide (A3.out.set3 1 rfl 1 (.slice (some ⟨g2, 0, none⟩) ((st k).length + 1) cap2))
          obtain ⟨d0, d1, d2⟩ := (A3.out.atBox 1 rfl).c3
          have e0 := (A3.out.atBox 1 rfl).frozen 1
          clear o2 p2 q2 r2 tw2 ch2 TW PUT hcn A1 A2 AH b0 b1 b2 A3
          go_wp2
          go_roundw
          case rel =>
            refine ⟨k + 1, .slice al (lo k).length cl, .slice (some ⟨g2, 0, none⟩) ((st k).length + 1) cap2, by omega, by go_num, ?_⟩
            rw [e1.out, e2.out]
            have := A4.out
            simpa using this
          case measure => simp [intOf]; omega
    · obtain rfl : k = xs.length := by omega
      have TT : Hid (∃ lo' hi', Two wr lo' hi' (.slice al (lo xs.length).length cl) (.slice asx (st xs.length).length csx) (lo xs.length) (st xs.length)) := AH.out.get 0 rfl
      obtain ⟨b0, b1, b2⟩ := (AH.out.atBox 1 rfl).c3
      have f2 := (AH.out.atBox 1 rfl).frozen 2
      have A1 := hide ((AH.out.set3 1 rfl 2 (.bool rr)).put3 2 rfl (.slice al (lo xs.length).length cl) (.slice asx (st xs.length).length csx) (.bool rr))
      obtain ⟨x0, x1, x2⟩ := ((AH.out.set3 1 rfl 2 (.bool rr)).atBox 1 rfl).c3
      obtain ⟨d0, d1, d2⟩ := ((AH.out.set3 1 rfl 2 (.bool rr)).atBox 2 rfl).c3
      have g0 := ((AH.out.set3 1 rfl 2 (.bool rr)).atBox 2 rfl).frozen 0
      have g1 := ((AH.out.set3 1 rfl 2 (.bool rr)).atBox 2 rfl).frozen 1
      have g2 := ((AH.out.set3 1 rfl 2 (.bool rr)).atBox 2 rfl).frozen 2
      clear TT
      generalize hnl : (lo xs.length).length = nl at *
      generalize hns : (st xs.length).length = ns at *
      have HNL := hide hnl
      have HNS := hide hns
      clear hnl hns
      have fin : Hid (∀ W, W = (((wr.setCell ⟨w.heap.size + 1 + 1, 2, none⟩ (.bool rr)).setCell ⟨w.heap.size + 1, 0, none⟩ (.slice al nl cl)).setCell ⟨w.heap.size + 1, 1, none⟩ (.slice asx ns csx)).setCell ⟨w.heap.size + 1, 2, none⟩ (.bool rr) → BoxAt W (w.heap.size + 1) #[.slice al nl cl, .slice asx ns csx, .bool rr] 29 ∧ Two W w.heap.size W.heap.size (.slice al nl cl) (.slice asx ns csx) (lo xs.length) (st xs.length) ∧ Below w.heap.size w W) := by
        rintro W rfl
        refine ⟨A1.out.atBox 2 rfl, ?_, A1.out.below⟩
        obtain ⟨z1, z2, tt, z3, z4, _⟩ := A1.out.open 0 rfl
        exact ⟨ownsRow_mono tt.a z3, ownsRow_mono tt.b z3, fun k hk => Nat.lt_of_lt_of_le (tt.ta k hk) z4, fun k hk => Nat.lt_of_lt_of_le (tt.tb k hk) z4, tt.ne⟩
      by_cases h1 : nl = 0
      · by_cases h2 : ns = 0
        · have er : rr = true := by rw [HR.out]; exact decide_eq_true ⟨h1, h2⟩
          subst er
          subst h1
          subst h2
          go_wp2
          obtain ⟨y1, y2, y3⟩ := fin.out _ rfl
          exact bodyPost_ret (res_hl rfl _ _ (w.heap.size + 1) _ _ _ (0, 0) rfl y1) rfl ⟨_, _, rfl, y2, y3⟩
        · have er : rr = false := by rw [HR.out]; exact decide_eq_false (fun h => h2 h.2)
          subst er
          subst h1
          have h2' : ¬ (ns : Int) = 0 := by omega
          have h2'' : ((ns : Int) == 0) = false := by simpa using h2'
          go_wp2
          obtain ⟨y1, y2, y3⟩ := fin.out _ rfl
          exact bodyPost_ret (res_hl rfl _ _ (w.heap.size + 1) _ _ _ (0, 0) rfl y1) rfl ⟨_, _, rfl, y2, y3⟩
      · have er : rr = false := by rw [HR.out]; exact decide_eq_false (fun h => h1 h.1)
        subst er
        have h1' : ¬ (nl : Int) = 0 := by omega
        have h1'' : ((nl : Int) == 0) = false := by simpa using h1'
        go_wp2
        obtain ⟨y1, y2, y3⟩ := fin.out _ rfl
        exact bodyPost_ret (res_hl rfl _ _ (w.heap.size + 1) _ _ _ (0, 0) rfl y1) rfl ⟨_, _, rfl, y2, y3⟩
end Go.Proofs.Ytbgadbokejaomaa

namespace Go.Proofs.Ytbgadbokejaomaa
open Go.RowKit
set_option linter.unusedVariables false

set_option maxRecDepth 100000 in
set_option maxHeartbeats 800000 in
theorem l7Read_calls (p h b : Value) (P H : List ByteArray) (B : List Bool) (k : Nat) (w : World) (gk : gkP P H B) (hk : k < P.length) (hp : RdT w p P) (hh : RdT w h H) (hb : RdZ w b B) :
    Calls Try.prog 32 #[.agg #[p, h, b], .int .i64 (k : Int)] w fun e w' => e = .returned (.tuple #[.string (if B.getD k false = true then ⟨#[]⟩ else rsT P H k), .bool (!B.getD k false)]) ∧ Below w.heap.size w w' := by
  have h24 : P.length ≤ 24 := gk.1.2
  have L2 := hide gk.2.1
  have L3 := hide gk.2.2.1
  have hbx := below_box w (.cells #[p, h, b] 32)
  have HB := hide hbx
  obtain ⟨ap, cp, rfl, mp, _⟩ := hp.sl
  obtain ⟨ah, ch, rfl, mh, _⟩ := hh.sl
  obtain ⟨ab, cb, rfl, mb, _⟩ := hb.sl
  obtain ⟨gb, ob, rfl, hcb, _⟩ := (hb.below hbx).cell k (by rw [L3.out]; exact hk)
  obtain ⟨gh, oh, rfl, hch, _⟩ := (hh.below hbx).cell k (by rw [L2.out]; exact hk)
  obtain ⟨gp, op, rfl, hcp, _⟩ := (hp.below hbx).cell k hk
  have i1 : (k : Int) < (B.length : Int) := by rw [L3.out]; omega
  have i2 : (k : Int) < (H.length : Int) := by rw [L2.out]; omega
  have i3 : (k : Int) < (P.length : Int) := by omega
  unfold rsT
  clear hp hh hb gk mp mh mb L2 L3 hbx
  generalize B.getD k false = y at *
  generalize H.getD k ⟨#[]⟩ = z at *
  generalize P.getD k ⟨#[]⟩ = u at *
  cases y with
  | true =>
    rw [if_pos rfl]
    go_enter Try.func32, Try.ntmps32
    go_wp2
    go_ret2
    exact ⟨rfl, HB.out⟩
  | false =>
    rw [if_neg (by simp)]
    by_cases hz : z.size = 0
    · have hzz := size_zero hz
      subst hzz
      rw [if_pos hz]
      go_enter Try.func32, Try.ntmps32
      go_wp2
      go_ret2
      exact ⟨rfl, HB.out⟩
    · rw [if_neg hz]
      obtain ⟨zz1, zz2⟩ := toList_ne (z := z) (fun e => hz (by rw [e]; rfl))
      clear hz
      go_enter Try.func32, Try.ntmps32
      go_wp2
      go_ret2
      exact ⟨rfl, HB.out⟩
end Go.Proofs.Ytbgadbokejaomaa

namespace Go.Proofs.Ytbgadbokejaomaa
open Go.RowKit

def tot (m : List (List Int)) : Nat := (m.map List.length).sum
theorem tot_nil : tot [] = 0 := rfl
theorem tot_take_succ (m : List (List Int)) (k : Nat) (h : k < m.length) : tot (m.take (k + 1)) = tot (m.take k) + (m.getD k []).length := by
  unfold tot
  rw [List.take_succ_eq_append_getElem h, List.map_append, List.sum_append]
  simp [List.getD_eq_getElem?_getD, List.getElem?_eq_getElem h]
theorem tot_app (a b : List (List Int)) : tot (a ++ b) = tot a + tot b := by simp [tot]
theorem tot_take_le (m : List (List Int)) (k : Nat) : tot (m.take k) ≤ tot m := by
  have := congrArg tot (List.take_append_drop k m)
  rw [tot_app] at this
  omega
theorem tot_row_le (m : List (List Int)) (k : Nat) (h : k < m.length) : tot (m.take k) + (m.getD k []).length ≤ tot m := by
  rw [← tot_take_succ m k h]; exact tot_take_le m (k + 1)
theorem Own.shape {w : World} {base : Nat} {v : Value} {xs : List Int} (h : Own w base v xs) : ∃ a n c, v = .slice a n c := by
  rcases h.2 with ⟨rfl, _⟩ | ⟨g, cap, cur, rfl, _⟩
  · exact ⟨_, _, _, rfl⟩
  · exact ⟨_, _, _, rfl⟩

/-- 'make([][]int, n)': n rows of nothing of the call's own, in the next block. -/
theorem wpList_make_rows {w : World} {ops : Array Oper} {rest : List Oper} {o : Oper} {a : Act} {Q : Exit → Act → World → Prop} (hg : o.guard = none) (l c : Operand) (hop : o.op = Op.makeSlice 43 l c)
    (L C : Int) (n : Nat) (hl : a.eval l = .int .i64 L) (hc : a.eval c = .int .i64 C) (hL : L = (n : Int)) (hC : C = (n : Int)) (hn : n ≤ 1048576)
    (h : ∀ w', MatV w' w.heap.size w'.heap.size (.slice (some ⟨w.heap.size, 0, none⟩) n n) (List.replicate n nilRow) (List.replicate n []) → w.grownBy w' none → wpList Try.prog ops Q rest (a.put o.dst (.slice (some ⟨w.heap.size, 0, none⟩) n n)) w') : wpList Try.prog ops Q (o :: rest) a w := by
  obtain ⟨i0, hi, hz0, hz1, hz2⟩ := info_parts infoRow
  refine wpList_make_full w hg l c _ hop w.heap.size 27 i0 (.slice none 0 0) 1 Try.underlying43 hi hz0 hz1 _ _ L C n hl hc hL hC (by rw [hz2]; omega) (by unfold maxLen; omega) (Nat.le_refl _) ?_
  intro w' ho hg'
  refine h w' ?_ hg'
  have e : (madeCells (Value.slice none 0 0).cells (n * 1)).toList = List.replicate n nilRow := by
    rw [Nat.mul_one]; exact toList_madeCells_one _ n
  rw [e] at ho
  have g1 : ∀ i, i < n → (List.replicate n nilRow).getD i nilRow = nilRow := fun i hi => by simp [List.getD_eq_getElem?_getD, hi]
  refine ⟨by simp, by rw [List.length_replicate]; exact ho, ?_, fun k hk => (World.ownsRow.lt ho k hk).2, ?_, ?_⟩
  · intro i hi
    rw [List.length_replicate] at hi
    rw [g1 i hi]
    have g2 : (List.replicate n ([] : List Int)).getD i [] = [] := by simp [List.getD_eq_getElem?_getD, hi]
    rw [g2]
    exact World.ownsRow_nil _ _ _ _
  · intro i k hi hk
    rw [List.length_replicate] at hi
    rw [g1 i hi] at hk
    simp [Value.ownBlock] at hk
  · intro i j hi hj _
    rw [List.length_replicate] at hi
    rw [g1 i hi]
    exact .inl rfl

/-- The first k rows; nothing in the others. -/
def toTo (m : List (List Int)) (k : Nat) : List (List Int) := m.take k ++ List.replicate (m.length - k) []
theorem toTo_length (m : List (List Int)) (k : Nat) (h : k ≤ m.length) : (toTo m k).length = m.length := by simp [toTo]; omega
theorem toTo_step (m : List (List Int)) (k : Nat) (h : k < m.length) : (toTo m k).set k (m.getD k []) = toTo m (k + 1) := by
  have e1 : (m.take k).length = k := by simp; omega
  unfold toTo
  rw [List.set_append_right _ _ (by omega), e1, Nat.sub_self]
  obtain ⟨j, hm⟩ : ∃ j, m.length - k = j + 1 := ⟨m.length - k - 1, by omega⟩
  have hm2 : m.length - (k + 1) = j := by omega
  rw [hm, hm2, List.replicate_succ, List.set_cons_zero, List.take_succ_eq_append_getElem h, List.append_assoc]
  simp only [List.getD_eq_getElem?_getD, List.getElem?_eq_getElem h, Option.getD_some, List.singleton_append]
theorem toTo_end (m : List (List Int)) : toTo m m.length = m := by simp [toTo]
theorem toTo_zero (m : List (List Int)) : toTo m 0 = List.replicate m.length [] := by simp [toTo]

set_option maxRecDepth 100000 in
set_option maxHeartbeats 400000 in
theorem eqIntS_quiet (v1 v2 : Value) (xs : List Int) (w : World) (h1 : Rd w v1 xs) (h2 : Rd w v2 xs) :
    Calls Try.prog 24 #[v1, v2] w fun e w' => e = .returned (.bool true) ∧ ∃ n, w' = w.drewN n := by
  obtain ⟨a1, c1, rfl, _, m1, k1⟩ := h1
  obtain ⟨a2, c2, rfl, _, _, k2⟩ := h2
  have hm : xs.length ≤ maxLen := by omega
  unfold maxLen at hm
  have K := hide k1
  have L := hide k2
  clear k1 k2 m1
  go_enter Try.func24, Try.ntmps24
  go_wp2
  go_loopw [5] (fun vi wr => ∃ k n : Nat, k ≤ xs.length ∧ vi = .int .i64 k ∧ wr = w.drewN n) (fun vi _ => xs.length - (intOf vi).toNat)
  case atStart => exact ⟨0, 0, Nat.zero_le _, rfl, rfl⟩
  case round =>
    obtain ⟨k, n, hk, rfl, rfl⟩ := hrel
    by_cases hlt : k < xs.length
    · rcases K.out with h3 | ⟨b, off, rfl, hbs, hc⟩
      · subst h3; simp at hlt
      rcases L.out with h3 | ⟨b', off', rfl, hbs', hc'⟩
      · subst h3; simp at hlt
      have e1 : w.cell? ⟨b, off + k, none⟩ = some (.int .i64 (xs.getD k 0)) := hc k hlt
      have e2 : w.cell? ⟨b', off' + k, none⟩ = some (.int .i64 (xs.getD k 0)) := hc' k hlt
      have hlt' : (k : Int) < (xs.length : Int) := by omega
      clear hc hc'
      go_wp2
      go_quiet (fail)
      go_wp2
      go_roundw
      case rel => exact ⟨k + 1, _, by omega, by go_num, rfl⟩
      case measure => simp [intOf]; omega
    · obtain rfl : k = xs.length := by omega
      go_wp2
      go_ret
      exact ⟨rfl, _, rfl⟩
theorem quiet_more {P : Program} {f : FuncId} {args : Array Value} {w : World} {n : Nat} {v : Value}
    (h : Calls P f args (w.drewN n) fun e w' => e = .returned v ∧ ∃ m, w' = (w.drewN n).drewN m) : Calls P f args (w.drewN n) fun e w'' => e = .returned v ∧ ∃ m, w'' = w.drewN m :=
  h.mono fun _ _ ⟨he, m, hm⟩ => ⟨he, n + m, by rw [hm, World.drewN_drewN]⟩
theorem Rd.drewN {w : World} {v : Value} {xs : List Int} (h : Rd w v xs) (n : Nat) : Rd (w.drewN n) v xs := h.below (below_drewN' n)

/-- The rows' marks: each row's numbers go on where the row ahead of it stopped. -/
def mkM (k : Int) (m : List (List Int)) (j : Nat) : List Int := marks (k + tot (m.take j)) (m.getD j []).length
def mkToM (k : Int) (m : List (List Int)) (i : Nat) : List (List Int) := (List.range i).map (mkM k m) ++ m.drop i
def marksM (k : Int) (m : List (List Int)) : List (List Int) := (List.range m.length).map (mkM k m)
theorem mkToM_length (k : Int) (m : List (List Int)) (i : Nat) (h : i ≤ m.length) : (mkToM k m i).length = m.length := by simp [mkToM]; omega
theorem mkToM_get (k : Int) (m : List (List Int)) (i : Nat) : (mkToM k m i).getD i [] = m.getD i [] := by
  simp only [mkToM, List.getD_eq_getElem?_getD]
  rw [List.getElem?_append_right (by simp)]
  simp
theorem mkToM_step (k : Int) (m : List (List Int)) (i : Nat) (h : i < m.length) : (mkToM k m i).set i (mkM k m i) = mkToM k m (i + 1) := by
  unfold mkToM
  rw [List.set_append_right _ _ (by simp), List.length_map, List.length_range, Nat.sub_self, List.drop_eq_getElem_cons h, List.set_cons_zero]
  simp [List.range_succ]
theorem mkToM_end (k : Int) (m : List (List Int)) : mkToM k m m.length = marksM k m := by simp [mkToM, marksM]
theorem marksM_length (k : Int) (m : List (List Int)) : (marksM k m).length = m.length := by simp [marksM]
theorem marksM_get (k : Int) (m : List (List Int)) (i : Nat) (h : i < m.length) : (marksM k m).getD i [] = mkM k m i := by simp [marksM, h]

end Go.Proofs.Ytbgadbokejaomaa

namespace Go.Proofs.Ytbgadbokejaomaa
open Go.RowKit
namespace Gf

theorem l1In_yes (a lo hi : Int) (w : World) (ha0 : lo ≤ a) (ha : a ≤ hi) :
    Calls Try.prog 31 #[.int .i64 a, .int .i64 lo, .int .i64 hi] w fun e w' => e = .returned (.bool true) ∧ w = w' := by
  go_enter Try.func31, Try.ntmps31
  go_wp2
  go_ret
  exact ⟨rfl, rfl⟩
/-- An owned slice that is not empty, opened. -/
theorem Own.open {w : World} {base : Nat} {v : Value} {xs : List Int} (h : Own w base v xs) (hn : 0 < xs.length) :
    ∃ g cap, v = .slice (some ⟨g, 0, none⟩) xs.length cap ∧ base ≤ g ∧ g < w.heap.size ∧ ∀ i, i < xs.length → w.cell? ⟨g, i, none⟩ = some (.int .i64 (xs.getD i 0)) := by
  rcases h.2 with ⟨_, h0⟩ | ⟨g, cap, cur, rfl, hb, hg, _⟩
  · omega
  · refine ⟨g, cap, rfl, hb, (Array.getElem?_eq_some_iff.1 hg).1, fun i hi => ?_⟩
    rw [World.ownsRow.cellAt h i (by omega)]
    simp [hi]

def elOk (x : Int) : Bool := decide (0 ≤ x ∧ x ≤ 255)
theorem ret_bool {a b : Bool} (h : a = b) : Ending.returned (.bool a) = .returned (.bool b) := by rw [h]
theorem elOk_iff {x : Int} : elOk x = true ↔ 0 ≤ x ∧ x ≤ 255 := by simp [elOk]
theorem elOk_no {x : Int} : elOk x = false ↔ ¬ (0 ≤ x ∧ x ≤ 255) := by simp [elOk]
theorem all_of_getD {xs : List Int} : (xs.all elOk = true) ↔ ∀ i, i < xs.length → elOk (xs.getD i 0) = true := by
  rw [List.all_eq_true]
  constructor
  · intro h i hi
    rw [List.getD_eq_getElem?_getD, List.getElem?_eq_getElem hi, Option.getD_some]
    exact h _ (List.getElem_mem hi)
  · intro h x hx
    obtain ⟨i, hi, rfl⟩ := List.mem_iff_getElem.1 hx
    have := h i hi
    rwa [List.getD_eq_getElem?_getD, List.getElem?_eq_getElem hi, Option.getD_some] at this
theorem all_bad {xs : List Int} {k : Nat} (hk : k < xs.length) (h : elOk (xs.getD k 0) = false) : xs.all elOk = false := by
  cases hh : xs.all elOk with
  | false => rfl
  | true => rw [all_of_getD.1 hh k hk] at h; cases h
/-- An element's outcome, in the walk's own form. -/
theorem elOk_tests {z : Int} (h : elOk z = true) : 0 ≤ z ∧ z < 256 := by have := elOk_iff.1 h; omega

theorem quiet_same {P : Program} {f : FuncId} {args : Array Value} {w : World} {n : Nat} {v : Value}
    (h : Calls P f args (w.drewN n) fun e w' => e = .returned v ∧ w.drewN n = w') : Calls P f args (w.drewN n) fun e w'' => e = .returned v ∧ ∃ m, w'' = w.drewN m :=
  h.mono fun _ _ ⟨he, hm⟩ => ⟨he, n, hm.symm⟩
set_option maxRecDepth 100000 in
theorem l1In_calls (a lo hi : Int) (w : World) :
    Calls Try.prog 31 #[.int .i64 a, .int .i64 lo, .int .i64 hi] w fun e w' => e = .returned (.bool (decide (lo ≤ a ∧ a ≤ hi))) ∧ w = w' := by
  by_cases h : lo ≤ a
  · by_cases h2 : a ≤ hi
    · rw [decide_eq_true ⟨h, h2⟩]
      exact l1In_yes a lo hi w h h2
    · rw [decide_eq_false (fun e => h2 e.2)]
      go_enter Try.func31, Try.ntmps31
      go_wp2
      go_ret
      exact ⟨rfl, rfl⟩
  · rw [decide_eq_false (fun e => h e.1)]
    go_enter Try.func31, Try.ntmps31
    go_wp2
    go_ret
    exact ⟨rfl, rfl⟩
end Gf
end Go.Proofs.Ytbgadbokejaomaa

namespace Go.Proofs.Ytbgadbokejaomaa
open Go.RowKit

theorem all_yes {α : Type} {l : List α} {d : α} {p : α → Bool} (h : ∀ i, i < l.length → p (l.getD i d) = true) : l.all p = true := by
  rw [List.all_eq_true]
  intro x hx
  obtain ⟨i, hi, rfl⟩ := List.mem_iff_getElem.1 hx
  have := h i hi
  rwa [List.getD_eq_getElem?_getD, List.getElem?_eq_getElem hi, Option.getD_some] at this
theorem all_at {α : Type} {l : List α} {d : α} {p : α → Bool} (h : l.all p = true) (i : Nat) (hi : i < l.length) : p (l.getD i d) = true := by
  rw [List.getD_eq_getElem?_getD, List.getElem?_eq_getElem hi, Option.getD_some]
  exact List.all_eq_true.1 h _ (List.getElem_mem hi)
theorem all_no {α : Type} {l : List α} {d : α} {p : α → Bool} {k : Nat} (hk : k < l.length) (h : p (l.getD k d) = false) : l.all p = false := by
  cases hh : l.all p with
  | false => rfl
  | true => rw [all_at hh k hk] at h; cases h
theorem Rd.row {w : World} {a : Option Addr} {n cap : Nat} {xs : List Int} (h : Rd w (.slice a n cap) xs) (i : Nat) (hi : i < xs.length) :
    ∃ b off u, a = some ⟨b, off, none⟩ ∧ w.cell? ⟨b, off + i, none⟩ = some u ∧ u = .int .i64 (xs.getD i 0) := by
  obtain ⟨a', cap', hv, _, _, h3⟩ := h
  simp only [Value.slice.injEq] at hv
  obtain ⟨rfl, rfl, rfl⟩ := hv
  rcases h3 with h3 | ⟨b, off, rfl, hlt, hc⟩
  · subst h3; simp at hi
  · exact ⟨b, off, _, rfl, hc i hi, rfl⟩

/-- What both call a matrix. -/
def goodM (m : List (List Int)) : Bool :=
  decide (1 ≤ (m.length : Int) ∧ (m.length : Int) ≤ 8) && (decide (1 ≤ ((m.getD 0 []).length : Int) ∧ ((m.getD 0 []).length : Int) ≤ 8) && (m.all (fun r : List Int => decide ((r.length : Int) = ((m.getD 0 []).length : Int))) && m.all (fun r : List Int => r.all Gf.elOk)))
theorem goodM_rows {m : List (List Int)} (h : goodM m = true) : 1 ≤ m.length ∧ m.length ≤ 8 ∧ 1 ≤ (m.getD 0 []).length ∧ (m.getD 0 []).length ≤ 8 ∧ ∀ i, i < m.length → (m.getD i []).length = (m.getD 0 []).length ∧ (m.getD i []).all Gf.elOk = true := by
  simp only [goodM, Bool.and_eq_true, decide_eq_true_eq] at h
  obtain ⟨h1, h2, h3, h4⟩ := h
  refine ⟨by omega, by omega, by omega, by omega, fun i hi => ⟨?_, all_at h4 i hi⟩⟩
  have := all_at (d := []) h3 i hi
  simp only [decide_eq_true_eq] at this
  omega
theorem goodM_tot {m : List (List Int)} (h : goodM m = true) : m.length + tot m ≤ 1048576 := by
  obtain ⟨h1, h2, h3, h4, h5⟩ := goodM_rows h
  have : ∀ k, k ≤ m.length → tot (m.take k) ≤ 8 * k := by
    intro k
    induction k with
    | zero => intro _; simp [tot]
    | succ k ih =>
      intro hk
      rw [tot_take_succ m k (by omega)]
      have := ih (by omega)
      have := (h5 k (by omega)).1
      omega
  have := this m.length (Nat.le_refl _)
  rw [List.take_length] at this
  omega

end Go.Proofs.Ytbgadbokejaomaa

namespace Go.Proofs.Ytbgadbokejaomaa
open Go.RowKit

/-- 'append(out, row)', out rows of the call's own, row a new list of its own. -/
theorem wpList_append_row {w W1 : World} {ops : Array Oper} {rest : List Oper} {o : Oper} {a : Act} {Q : Exit → Act → World → Prop} (hgd : o.guard = none) (s x : Operand)
    (ho : o.op = .call { callee := .builtin .append, args := #[s, x], argTypes := #[43, 43] })
    (lo hi : Nat) (v : Value) (vs : List Value) (m : List (List Int)) (hs : a.eval s = v) (h : MatV w lo hi v vs m) (hb : Below w.heap.size w W1) (u : Value) (r : List Int) (hu : Own W1 w.heap.size u r) (hh : hi ≤ w.heap.size) (hlo : lo ≤ w.heap.size)
    (g : Nat) (hx : a.eval x = .slice (some ⟨g, 0, none⟩) 1 1) (hcell : W1.cell? ⟨g, 0, none⟩ = some u) (hn : m.length ≤ 1048576)
    (K : ∀ v' w2, MatV w2 lo w2.heap.size v' (vs ++ [u]) (m ++ [r]) → Below lo w w2 → wpList Try.prog ops Q rest (a.put o.dst v') w2) : wpList Try.prog ops Q (o :: rest) a W1 := by
  obtain ⟨i0, hi0, hz0, hz1, hz2⟩ := info_parts infoRow
  have hsz := hb.size
  refine wpList_append_own (w := W1) hgd s x _ ho lo _ i0 (.slice none 0 0) 1 24 Try.underlying43 hi0 hz0 hz1 hz2 rfl (by decide) v m.length vs hs (ownsRow_below h.head hb) ⟨g, 0, none⟩ 1 1 [u] hx (by simp) ?_ ?_ (by unfold maxLen; omega) (by omega) (by omega) ?_
  · intro j y hj
    cases j with
    | zero =>
      simp at hj
      subst hj
      have hadd : (⟨g, 0, none⟩ : Addr).add 0 = ⟨g, 0, none⟩ := by unfold Addr.add; split <;> simp_all
      rw [hadd]; exact hcell
    | succ j => simp at hj
  · intro y hy
    simp at hy
    subst hy
    obtain ⟨xa, xn, xc, rfl⟩ := hu.shape
    rfl
  · intro v' w2 ho2 hg2 _
    exact K v' w2 (h.push hb hu hh hlo ho2 hg2) ((hb.mono hlo).grown hg2 (by omega) (fun k hk => (World.ownsRow.lt h.head k hk).1))

theorem map_range_set {α : Type} (f : Nat → α) (n k : Nat) (x : α) : ((List.range n).map f).set k x = (List.range n).map (fun i => if i = k then x else f i) := by
  apply List.ext_getElem?
  intro i
  rw [List.getElem?_set]
  by_cases hi : i < n
  · by_cases e : k = i
    · subst e; simp [hi]
    · rw [if_neg e, List.getElem?_map, List.getElem?_map, List.getElem?_range hi]
      simp only [Option.map_some]
      rw [if_neg (fun h => e h.symm)]
  · simp [hi]; omega
/-- Row i of the identity of n. -/
def unitRow (n i : Nat) : List Int := (List.replicate n (0 : Int)).set i 1
def identM (n : Nat) : List (List Int) := (List.range n).map (unitRow n)
def identTo (n k : Nat) : List (List Int) := (List.range n).map fun i => if i < k then unitRow n i else List.replicate n 0
theorem identM_length (n : Nat) : (identM n).length = n := by simp [identM]
theorem identM_get (n i : Nat) (h : i < n) : (identM n).getD i [] = unitRow n i := by simp [identM, h]
theorem unitRow_length (n i : Nat) : (unitRow n i).length = n := by simp [unitRow]
theorem identTo_length (n k : Nat) : (identTo n k).length = n := by simp [identTo]
theorem identTo_get (n k : Nat) (h : k < n) : (identTo n k).getD k [] = List.replicate n 0 := by simp [identTo, h]
theorem identTo_step (n k : Nat) : (identTo n k).set k (unitRow n k) = identTo n (k + 1) := by
  unfold identTo
  rw [map_range_set]
  apply List.map_congr_left
  intro i _
  by_cases e : i = k
  · subst e; simp
  · rw [if_neg e]
    by_cases h : i < k
    · rw [if_pos h, if_pos (by omega)]
    · rw [if_neg h, if_neg (by omega)]
theorem identTo_zero (n : Nat) : identTo n 0 = List.replicate n (List.replicate n 0) := by
  unfold identTo
  apply List.ext_getElem?
  intro i
  by_cases hi : i < n
  · simp [hi]
  · simp [hi]
theorem identTo_end (n : Nat) : identTo n n = identM n := by
  unfold identTo identM
  apply List.map_congr_left
  intro i hi
  rw [if_pos (List.mem_range.1 hi)]

theorem Own.open1 {w : World} {base : Nat} {v : Value} {xs : List Int} (h : Own w base v xs) (hn : 0 < xs.length) :
    ∃ g cap, v = .slice (some ⟨g, 0, none⟩) xs.length cap ∧ base ≤ g ∧ g < w.heap.size ∧ xs.length ≤ cap ∧ cap ≤ maxLen := by
  rcases h.2 with ⟨_, h0⟩ | ⟨g, cap, cur, rfl, hb, hg, hc, hm, _⟩
  · omega
  · exact ⟨g, cap, rfl, hb, (Array.getElem?_eq_some_iff.1 hg).1, hc, hm⟩
/-- One cell of an owned list is written. -/
theorem Own.put {w : World} {base g n cap : Nat} {xs : List Int} (h : Own w base (.slice (some ⟨g, 0, none⟩) n cap) xs) (i : Nat) (x : Int) :
    Own (w.setCell ⟨g, i, none⟩ (.int .i64 x)) base (.slice (some ⟨g, 0, none⟩) n cap) (xs.set i x) ∧ w.grownBy (w.setCell ⟨g, i, none⟩ (.int .i64 x)) (some g) := by
  have hn : n = xs.length := by
    rcases h.2 with ⟨h', _⟩ | ⟨g', cap', cur, h', _⟩
    · simp at h'
    · simp at h'; exact h'.2.1
  subst hn
  have := World.ownsRow.stored h i (.int .i64 x)
  refine ⟨?_, this.2⟩
  have h1 := this.1
  rw [← List.map_set] at h1
  show World.ownsRow _ _ _ _ _ (xs.set i x).length _
  rw [List.length_set]
  exact h1
theorem Own.at {w : World} {base g n cap : Nat} {xs : List Int} (h : Own w base (.slice (some ⟨g, 0, none⟩) n cap) xs) (i : Nat) (hi : i < xs.length) :
    w.frozen? ⟨g, i, none⟩ = false ∧ w.cell? ⟨g, i, none⟩ = some (.int .i64 (xs.getD i 0)) := by
  have hn : n = xs.length := by
    rcases h.2 with ⟨h', _⟩ | ⟨g', cap', cur, h', _⟩
    · simp at h'
    · simp at h'; exact h'.2.1
  subst hn
  refine ⟨World.ownsRow.frozenAt h i, ?_⟩
  rw [World.ownsRow.cellAt h i (by omega)]
  simp [hi]

end Go.Proofs.Ytbgadbokejaomaa

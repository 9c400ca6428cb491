/-
  A stripe read by the model: l8Read and ReadStripe. Each contract says what it asks. The law that holds the program's ReadStripe against its model's: at every disk and numbers the call returns true, and nothing that was there is written. The program's table of rests must hold its seven numbers.
-/
import Derived.Test.YtbgadbokejaomaaGreatDoorReadStripeB29
import Derived.Test.YtbgadbokejaomaaGreatDoorReadStripeB30
namespace Go.Proofs.YtbgadbokejaomaaGreatDoor
open Go.RowKit
open Gf (ci nat)
set_option linter.unusedVariables false

def TSn (vm ve : Value) (vs : List Value) (m : List (List Int)) (es : List Int) : Tg := fun lo hi w => Sn w lo hi vm ve vs m es
theorem TSn.st (vm ve : Value) (vs : List Value) (m : List (List Int)) (es : List Int) : (TSn vm ve vs m es).st := fun lo hi a b w w' h hc hd => ⟨h.mat.chg hc hd, ownsRow_chg h.ep h.te hc hd, h.te, h.ne⟩
theorem bdL_bdC (xs : List Pc) : bdL xs = bdC xs := rfl

set_option maxRecDepth 100000 in
set_option maxHeartbeats 3200000 in
theorem l8Read_calls (p h b : Value) (P H : List ByteArray) (B : List Bool) (a : Nat) (least : Int) (w : World) (gk : gkP P H B) (ha5 : a + 5 ≤ P.length) (hp : RdT w p P) (hh : RdT w h H) (hb : RdZ w b B) :
    Calls Tryz.prog 105 #[.agg #[p, h, b], .int .i64 (a : Int), .int .i64 least] w fun e w' => ∃ vm vo, e = .returned (.tuple #[vm, vo, .int .i64 (rtX (skL P H B least a))]) ∧ (0 ≤ rtX (skL P H B least a) → Mat w' w.heap.size w'.heap.size vm (dcM (skL P H B least a))) ∧ Own w' w.heap.size vo (if 0 ≤ rtX (skL P H B least a) then othE ((skL P H B least a).map epo) (rtX (skL P H B least a)) 5 else []) ∧ Below w.heap.size w w' := by
  have RP := hide hp
  have RH := hide hh
  have RB := hide hb
  have C1 := hide (fun W h1 h2 h3 => l8Seen_calls p h b P H B a least W gk ha5 h1 h2 h3)
  obtain ⟨xs, hxs⟩ : ∃ xs, xs = skL P H B least a := ⟨_, rfl⟩
  have xl : xs.length = 5 := by rw [hxs, skL_length]
  have xok : ∀ k, okP (xs.getD k none) := by rw [hxs]; exact skL_ok _ _ _ _ _
  rw [← hxs] at C1 ⊢
  rw [bdL_bdC] at C1
  have hel : (xs.map epo).length = 5 := by rw [List.length_map, xl]
  have C2 := hide (fun W v (hv : Rd W v (xs.map epo)) => l8Right_calls v (xs.map epo) W hv (by omega))
  rw [hel] at C2
  have DY := hide (fun hr => (dc_yes xl xok hr).2)
  have C3 := hide (fun W vm vo hr hm ho => l3Decode_calls 3 2 16 vm vo (bdC xs) (othE (xs.map epo) (rtX xs) 5) W hm ho (DY.out hr))
  have RG : Hid (-1 ≤ rtX xs) := rtE_ge _ _
  have C2' : Hid (∀ W v, Rd W v (xs.map epo) → Calls Tryz.prog 149 #[v] W fun e w' => e = .returned (.int .i64 (rtX xs)) ∧ W = w') := C2.out
  have C3' : Hid (∀ W vm vo, 0 ≤ rtX xs → RdM W vm (bdC xs) → Rd W vo (othE (xs.map epo) (rtX xs) 5) → Calls Tryz.prog 150 #[.int .i64 3, .int .i64 2, vm, vo] W fun e w' => ∃ v', e = .returned v' ∧ Mat w' W.heap.size w'.heap.size v' (dcM xs) ∧ Below W.heap.size W w') := C3.out
  obtain ⟨ot, hot⟩ : ∃ ot : Nat → List Int, ot = othE (xs.map epo) (rtX xs) := ⟨_, rfl⟩
  have o0 : ot 0 = [] := by rw [hot]; rfl
  have os : ∀ k, ot (k + 1) = if (xs.map epo).getD k 0 = rtX xs ∧ 0 ≤ (xs.map epo).getD k 0 then ot k else ot k ++ [(k : Int)] := by
    intro k
    rw [hot]
    show (if (!isE (rtX xs) ((xs.map epo).getD k 0)) = true then _ else _) = _
    unfold isE
    by_cases hh : (xs.map epo).getD k 0 = rtX xs ∧ 0 ≤ (xs.map epo).getD k 0
    · rw [if_pos hh, decide_eq_true hh]; rfl
    · rw [if_neg hh, decide_eq_false hh]; rfl
  have ol : ∀ k, (ot k).length ≤ k := by intro k; rw [hot]; exact pkE_le _ _ _
  have e5 : othE (xs.map epo) (rtX xs) 5 = ot 5 := by rw [hot]
  rw [e5] at C3' ⊢
  have O0 := hide o0
  have OS := hide os
  have OL := hide ol
  have EL := hide hel
  clear C2 C3 DY hxs xl xok hot o0 os ol e5 hel hp hh hb gk ha5
  generalize xs.map epo = es at *
  generalize bdC xs = M at *
  generalize dcM xs = dm at *
  generalize rtX xs = r at *
  obtain ⟨oo, hoo⟩ : ∃ oo, oo = (if 0 ≤ r then ot 5 else []) := ⟨_, rfl⟩
  rw [← hoo]
  have HOO := hide hoo
  clear hoo
  have A0 := hide ((Hand.start w).box #[p, h, b] 26)
  obtain ⟨c0, c1, c2⟩ := (A0.out.atBox 0 rfl).c3
  go_enter Tryz.func105, Tryz.ntmps105
  go_wp2_with fail
  refine (C1.out _ (RP.out.below A0.out.below) (RH.out.below A0.out.below) (RB.out.below A0.out.below)).mono ?_
  rintro e w1 ⟨vm, ve, vs, rfl, sn, q⟩
  have RE := hide (Own.rd sn.ep)
  have A1 := hide ((A0.out.add q (TSn.st vm ve vs M es) sn).add (Below.refl _ _) (TInts.st (.slice none 0 0) []) ⟨World.ownsRow_nil _ _ _ _, fun k hk => by simp [Value.ownBlock] at hk⟩)
  clear q sn A0 c0 c1 c2
  go_wp2_with fail
  refine (C2'.out _ _ RE.out).mono ?_
  rintro e w2 ⟨rfl, rfl⟩
  obtain ⟨ae, ce, hve, _⟩ := RE.out
  rw [EL.out] at hve
  subst hve
  clear RE
  go_wp2
  go_loopw [12, 13, 14, 26] (fun vo _ _ vi wr => ∃ (k : Nat) (ao : Option Addr) (co : Nat), k ≤ 5 ∧ vi = .int .i64 k ∧ vo = .slice ao (ot k).length co ∧ Hand w wr [TInts (.slice ao (ot k).length co) (ot k), TSn vm (.slice ae 5 ce) vs M es, TBox w.heap.size #[p, h, b] 26]) (fun _ _ _ vi _ => 5 - (intOf vi).toNat)
  case atStart =>
    refine ⟨0, none, 0, Nat.zero_le _, rfl, by rw [O0.out]; rfl, ?_⟩
    rw [O0.out]
    exact A1.out
  case round =>
    clear A1
    obtain ⟨k, ao, co, hk, rfl, rfl, hH⟩ := hrel
    have AH := hide hH
    clear hH
    have l1 := OL.out k
    by_cases hlt : k < 5
    · have hlt' : (k : Int) < 5 := by omega
      obtain ⟨y1, y2, sn⟩ := AH.out.get 1 rfl
      obtain ⟨a', c', e', _, _, h3⟩ := Own.rd sn.ep
      simp only [Value.slice.injEq] at e'
      obtain ⟨rfl, e5, rfl⟩ := e'
      clear e5
      rcases h3 with h3 | ⟨b', off, hba, hbs, hc⟩
      · have := EL.out
        rw [h3] at this
        simp at this
      subst hba
      have hck := hc k (by rw [EL.out]; exact hlt)
      have S := hide (OS.out k)
      generalize es.getD k 0 = E at hck S
      clear hc sn y1 y2 hbs
      by_cases hE : E = r ∧ 0 ≤ E
      · have e1 : Hid (ot (k + 1) = ot k) := by show _ = _; rw [S.out, if_pos hE]
        obtain ⟨hE1, hE2⟩ := hE
        subst hE1
        have hE3 : ¬ E < 0 := by omega
        have hE4 : decide (E < 0) = false := decide_eq_false hE3
        clear S
        go_wp2
        go_roundw
        case rel =>
          refine ⟨k + 1, ao, co, by omega, by go_num, by rw [e1.out], ?_⟩
          rw [e1.out]
          exact AH.out
        case measure => simp [intOf]; omega
      · have e1 : Hid (ot (k + 1) = ot k ++ [(k : Int)]) := by show _ = _; rw [S.out, if_neg hE]
        have HL4 : Hid ((ot (k + 1)).length = (ot k).length + 1) := by show _ = _; rw [e1.out, List.length_append]; rfl
        clear S
        have A2 := hide (AH.out.step (below_box wr (.cells #[.int .i64 (k : Int)] 3)))
        obtain ⟨zl, zh, tw, t1, t2, t3, put⟩ := A2.out.openTop
        have TW := hide tw
        have PUT := hide put
        clear tw put
        have FIN : Hid (∀ g4 c4 w4, w4.ownsRow zl 3 1 (.slice (some ⟨g4, 0, none⟩) ((ot k).length + 1) c4) ((ot k).length + 1) ((ot k).map (Value.int .i64) ++ [Value.int .i64 (k : Int)]) → (wr.alloc (.cells #[.int .i64 (k : Int)] 3)).grownBy w4 (Value.slice ao (ot k).length co).ownBlock → g4 < w4.heap.size → Hand w w4 [TInts (.slice (some ⟨g4, 0, none⟩) (ot (k + 1)).length c4) (ot (k + 1)), TSn vm (.slice (some ⟨b', off, none⟩) 5 ce) vs M es, TBox w.heap.size #[p, h, b] 26]) := by
          show ∀ g4 c4 w4, _
          intro g4 c4 w4 o4 p4 r4
          refine PUT.out w4 (TInts (.slice (some ⟨g4, 0, none⟩) (ot (k + 1)).length c4) (ot (k + 1))) (TInts.st _ _) ⟨?_, fun z hz => ?_⟩ (Chg.ofGrown p4 fun z hz => ⟨row_low TW.out.1 z hz, Nat.lt_of_lt_of_le (TW.out.2 z hz) t2⟩)
          · show World.ownsRow _ _ _ _ _ (ot (k + 1)).length _
            rw [HL4.out, e1.out, List.map_append]
            exact o4
          · simp [Value.ownBlock] at hz
            omega
        by_cases hE1 : E = r
        · have hE2 : E < 0 := by omega
          subst hE1
          go_wp2_with (at_builtin; refine wpList_append_int1 rfl _ _ rfl zl _ (ot k).length (ot k) k rfl TW.out.1 wr.heap.size rfl (World.cell?_alloc_at _ _ _ _ (by simp)) (by omega) (by omega) ?_)
          intro g4 c4 w4 o4 p4 q4 r4
          have A5 := hide (FIN.out g4 c4 w4 o4 p4 r4)
          clear o4 p4 q4 r4 TW PUT FIN A2 AH
          go_wp2
          go_roundw
          case rel => exact ⟨k + 1, some ⟨g4, 0, none⟩, c4, by omega, by go_num, by rw [HL4.out], A5.out⟩
          case measure => simp [intOf]; omega
        · have hE2 : (E == r) = false := by simpa using hE1
          have hE3 : (E != r) = true := by simpa using hE1
          go_wp2_with (at_builtin; refine wpList_append_int1 rfl _ _ rfl zl _ (ot k).length (ot k) k rfl TW.out.1 wr.heap.size rfl (World.cell?_alloc_at _ _ _ _ (by simp)) (by omega) (by omega) ?_)
          intro g4 c4 w4 o4 p4 q4 r4
          have A5 := hide (FIN.out g4 c4 w4 o4 p4 r4)
          clear o4 p4 q4 r4 TW PUT FIN A2 AH
          go_wp2
          go_roundw
          case rel => exact ⟨k + 1, some ⟨g4, 0, none⟩, c4, by omega, by go_num, by rw [HL4.out], A5.out⟩
          case measure => simp [intOf]; omega
    · obtain rfl : k = 5 := by omega
      by_cases hr : 0 ≤ r
      · have hr' : ¬ r < 0 := by omega
        have eo : oo = ot 5 := by rw [HOO.out, if_pos hr]
        subst eo
        obtain ⟨lo, hi, ⟨oo, ot'⟩, lw, hw, _⟩ := AH.out.open 0 rfl
        obtain ⟨y1, y2, sn⟩ := AH.out.get 1 rfl
        have RM := hide sn.mat.rd
        have RO := hide (Own.rd oo)
        have OO := hide oo
        clear oo ot' sn y1 y2
        go_wp2_with fail
        refine (C3'.out _ _ _ hr RM.out RO.out).mono ?_
        rintro e w5 ⟨v5, rfl, m5, q⟩
        have M5 := hide (m5.wider AH.out.below.size (Nat.le_refl _))
        have O5 := hide (Own.mono (OO.out.below q) lw)
        have A5 := hide (AH.out.step q)
        clear q m5 AH
        go_wp2
        go_ret3
        exact ⟨_, _, rfl, fun _ => M5.out, O5.out, A5.out.below⟩
      · have hr' : r < 0 := by omega
        have er : r = -1 := by have := RG.out; omega
        have eo : oo = [] := by rw [HOO.out, if_neg hr]
        subst eo
        subst er
        go_wp2
        go_ret3
        first | exact ⟨_, _, rfl, World.ownsRow_nil _ _ _ _, AH.out.below⟩ | exact ⟨_, rfl, World.ownsRow_nil _ _ _ _, AH.out.below⟩

set_option maxRecDepth 100000 in
set_option maxHeartbeats 1600000 in
theorem sReadStripe_calls (p h b : Value) (P H : List ByteArray) (B : List Bool) (A least : Int) (ok : Bool) (w : World) (hok : ok = true ↔ ((gkP P H B ∧ ftP P A) ∧ dcOk (rsX P H B least A))) (hp : RdT w p P) (hh : RdT w h H) (hb : RdZ w b B) :
    Calls Tryz.prog 53 #[.agg #[p, h, b], .int .i64 A, .int .i64 least] w fun e w' => ∃ v', e = .returned (.tuple #[.string (dcT ok (rsX P H B least A)), v', .bool ok]) ∧ Own w' w.heap.size v' (rsOth ok (rsX P H B least A)) ∧ Below w.heap.size w w' := by
  have RP := hide hp
  have RH := hide hh
  have RB := hide hb
  have HOK := hide hok
  obtain ⟨g, hg⟩ := gk_bool' P H B
  have HG := hide hg
  have C1 := hide (fun W h1 h2 h3 => sGoodDisk_calls p h b P H B g W hg h1 h2 h3)
  have A0 := hide ((Hand.start w).box #[p, h, b] 26)
  obtain ⟨c0, c1, c2⟩ := (A0.out.atBox 0 rfl).c3
  obtain ⟨ap, cp, rfl, mp, _⟩ := hp.sl
  obtain ⟨ah, ch, rfl, mh, _⟩ := hh.sl
  obtain ⟨ab, cb, rfl, mb, _⟩ := hb.sl
  have FALSE : Hid (¬ ((gkP P H B ∧ ftP P A) ∧ dcOk (rsX P H B least A)) → ok = false) := fun h => by
    cases ok with
    | false => rfl
    | true => exact absurd (HOK.out.1 rfl) h
  clear hp hh hb hok hg mp mh mb
  cases g with
  | false =>
    obtain rfl := FALSE.out (fun h' => by have := HG.out.2 h'.1.1; simp at this)
    show Calls _ _ _ _ fun e w' => ∃ v', e = .returned (.tuple #[.string ⟨#[]⟩, v', .bool false]) ∧ Own w' w.heap.size v' [] ∧ Below w.heap.size w w'
    go_enter Tryz.func53, Tryz.ntmps53
    go_wp2_with fail
    refine (C1.out _ (RP.out.below A0.out.below) (RH.out.below A0.out.below) (RB.out.below A0.out.below)).mono ?_
    rintro e w1 ⟨rfl, q⟩
    have A1 := hide (A0.out.step q)
    clear q A0 c0 c1 c2
    go_wp2
    go_ret3
    exact ⟨_, rfl, World.ownsRow_nil _ _ _ _, A1.out.below⟩
  | true =>
  have GK := hide (HG.out.1 rfl)
  have n24 : P.length ≤ 24 := GK.out.1.2
  obtain ⟨f, hf⟩ : ∃ f : Bool, f = true ↔ ftP P A := by
    by_cases hx : ftP P A
    · exact ⟨true, by simp [hx]⟩
    · exact ⟨false, by simp [hx]⟩
  have C2 := hide (fun W x y z t => l8Fits_calls x y z t P A f W hf n24)
  have HF := hide hf
  clear hf
  cases f with
  | false =>
    obtain rfl := FALSE.out (fun h' => by have := HF.out.2 h'.1.2; simp at this)
    show Calls _ _ _ _ fun e w' => ∃ v', e = .returned (.tuple #[.string ⟨#[]⟩, v', .bool false]) ∧ Own w' w.heap.size v' [] ∧ Below w.heap.size w w'
    go_enter Tryz.func53, Tryz.ntmps53
    go_wp2_with fail
    refine (C1.out _ (RP.out.below A0.out.below) (RH.out.below A0.out.below) (RB.out.below A0.out.below)).mono ?_
    rintro e w1 ⟨rfl, q⟩
    have A1 := hide (A0.out.step q)
    clear q A0 c0 c1 c2
    obtain ⟨c0, c1, c2⟩ := (A1.out.atBox 0 rfl).c3
    go_wp2_with fail
    refine (C2.out _ _ _ _ _).mono ?_
    rintro e w2 ⟨rfl, q⟩
    have A2 := hide (A1.out.step q)
    clear q A1 c0 c1 c2
    go_wp2
    go_ret3
    exact ⟨_, rfl, World.ownsRow_nil _ _ _ _, A2.out.below⟩
  | true =>
  have FT := hide (HF.out.1 rfl)
  obtain ⟨a, rfl⟩ : ∃ a : Nat, A = (a : Int) := ⟨A.toNat, by have := FT.out.1; omega⟩
  have ha5 : a + 5 ≤ P.length := by have := FT.out.2; omega
  have HD : Hid (ok = true ↔ dcOk (rsX P H B least (a : Int))) := by show _ ↔ _; rw [HOK.out]; exact ⟨fun h => h.2, fun h => ⟨⟨GK.out, FT.out⟩, h⟩⟩
  have ex : rsX P H B least (a : Int) = skL P H B least a := by unfold rsX; rw [Int.toNat_natCast]
  rw [ex] at HD
  rw [ex]
  have C3 := hide (fun W h1 h2 h3 => l8Read_calls (.slice ap P.length cp) (.slice ah H.length ch) (.slice ab B.length cb) P H B a least W GK.out ha5 h1 h2 h3)
  obtain ⟨xs, hxs⟩ : ∃ xs, xs = skL P H B least a := ⟨_, rfl⟩
  have xl : xs.length = 5 := by rw [hxs, skL_length]
  have xok : ∀ k, okP (xs.getD k none) := by rw [hxs]; exact skL_ok _ _ _ _ _
  rw [← hxs] at C3 HD ⊢
  have RO : Hid (ok = true → rsOth ok xs = othE (xs.map epo) (rtX xs) 5) := fun e => by unfold rsOth; rw [if_pos e]
  have RN : Hid (ok = false → rsOth ok xs = [] ∧ dcT ok xs = ⟨#[]⟩) := fun e => ⟨by unfold rsOth; rw [e]; rfl, by unfold dcT; rw [e]; rfl⟩
  clear HOK HF FT FALSE HG ex hxs
  by_cases hr : 0 ≤ rtX xs
  case neg =>
    have okf : ok = false := by
      cases ok with
      | false => rfl
      | true => exact absurd (HD.out.1 rfl).1 hr
    subst okf
    obtain ⟨e1, e2⟩ := RN.out rfl
    rw [e1, e2]
    have hr' : rtX xs < 0 := by omega
    generalize rtX xs = r at *
    generalize (if 0 ≤ r then othE (xs.map epo) r 5 else []) = oo at *
    clear e1 e2 RO RN HD xl xok
    go_enter Tryz.func53, Tryz.ntmps53
    go_wp2_with fail
    refine (C1.out _ (RP.out.below A0.out.below) (RH.out.below A0.out.below) (RB.out.below A0.out.below)).mono ?_
    rintro e w1 ⟨rfl, q⟩
    have A1 := hide (A0.out.step q)
    clear q A0 c0 c1 c2
    obtain ⟨c0, c1, c2⟩ := (A1.out.atBox 0 rfl).c3
    go_wp2_with fail
    refine (C2.out _ _ _ _ _).mono ?_
    rintro e w2 ⟨rfl, q⟩
    have A2 := hide (A1.out.step q)
    clear q A1 c0 c1 c2
    obtain ⟨c0, c1, c2⟩ := (A2.out.atBox 0 rfl).c3
    go_wp2_with fail
    refine (C3.out _ (RP.out.below A2.out.below) (RH.out.below A2.out.below) (RB.out.below A2.out.below)).mono ?_
    rintro e w3 ⟨vm, vo, rfl, m3, o3, q⟩
    have A3 := hide (A2.out.step q)
    clear q A2 c0 c1 c2 m3 o3
    go_wp2
    go_ret3
    exact ⟨_, rfl, World.ownsRow_nil _ _ _ _, A3.out.below⟩
  have hy : ok = true ↔ tfP (dcM xs) := by rw [HD.out]; exact ⟨fun h => h.2, fun h => ⟨hr, h⟩⟩
  have C4 := hide (fun W v hv => l8From_calls v (dcM xs) ok W hy hv (tf_r16 (dc_tf xl xok hr)).1)
  have er : (if ok = true then tfT (dcM xs) else ⟨#[]⟩) = dcT ok xs := rfl
  rw [er] at C4
  rw [if_pos hr] at C3
  have hr' : ¬ rtX xs < 0 := by omega
  generalize rsOth ok xs = oo at *
  generalize dcT ok xs = tt at *
  generalize othE (xs.map epo) (rtX xs) 5 = ot at *
  generalize rtX xs = r at *
  generalize dcM xs = dm at *
  clear HD xl xok er hy
  go_enter Tryz.func53, Tryz.ntmps53
  go_wp2_with fail
  refine (C1.out _ (RP.out.below A0.out.below) (RH.out.below A0.out.below) (RB.out.below A0.out.below)).mono ?_
  rintro e w1 ⟨rfl, q⟩
  have A1 := hide (A0.out.step q)
  clear q A0 c0 c1 c2
  obtain ⟨c0, c1, c2⟩ := (A1.out.atBox 0 rfl).c3
  go_wp2_with fail
  refine (C2.out _ _ _ _ _).mono ?_
  rintro e w2 ⟨rfl, q⟩
  have A2 := hide (A1.out.step q)
  clear q A1 c0 c1 c2
  obtain ⟨c0, c1, c2⟩ := (A2.out.atBox 0 rfl).c3
  go_wp2_with fail
  refine (C3.out _ (RP.out.below A2.out.below) (RH.out.below A2.out.below) (RB.out.below A2.out.below)).mono ?_
  rintro e w3 ⟨vm, vo, rfl, m3, o3, q⟩
  have RM := hide (m3 hr).rd
  have OO := hide (Own.mono o3 A2.out.below.size)
  have A3 := hide (A2.out.step q)
  clear q A2 c0 c1 c2 m3 o3
  go_wp2_with fail
  refine (C4.out _ _ RM.out).mono ?_
  rintro e w4 ⟨rfl, q⟩
  have A4 := hide (A3.out.step q)
  have O4 := hide (OO.out.below q)
  clear q A3 OO RM
  cases ok with
  | true =>
    have e1 := RO.out rfl
    subst e1
    go_wp2
    go_ret3
    exact ⟨_, rfl, O4.out, A4.out.below⟩
  | false =>
    obtain ⟨e1, e2⟩ := RN.out rfl
    subst e1
    subst e2
    go_wp2
    go_ret3
    exact ⟨_, rfl, World.ownsRow_nil _ _ _ _, A4.out.below⟩
theorem rs_bool (P H : List ByteArray) (B : List Bool) (A least : Int) : ∃ ok : Bool, ok = true ↔ ((gkP P H B ∧ ftP P A) ∧ dcOk (rsX P H B least A)) := by
  by_cases h : (gkP P H B ∧ ftP P A) ∧ dcOk (rsX P H B least A)
  · exact ⟨true, by simp [h]⟩
  · exact ⟨false, by simp [h]⟩
end Go.Proofs.YtbgadbokejaomaaGreatDoor

namespace Go.Proofs.YtbgadbokejaomaaGreatDoor
open Go.RowKit
set_option linter.unusedVariables false

set_option maxRecDepth 100000 in
set_option maxHeartbeats 1600000 in
theorem fnExactReadStripe_walk (p h b : Value) (P H : List ByteArray) (B : List Bool) (A least : Int) (w : World) (hT : Gf.Tab w) (hp : RdT w p P) (hh : RdT w h H) (hb : RdZ w b B) (hA : (Lit.int .i64 A).wf = true) (hL : (Lit.int .i64 least).wf = true) :
    Calls Tryz.prog 11 #[.agg #[p, h, b], .int .i64 A, .int .i64 least] w fun e w' => e = .returned (.bool true) ∧ Below w.heap.size w w' := by
  have RP := hide hp
  have RH := hide hh
  have RB := hide hb
  have TT := hide hT
  obtain ⟨ok, hok⟩ := rs_bool P H B A least
  have C1 := hide (fun V p h b h1 h2 h3 => sReadStripe_calls p h b P H B A least ok V hok h1 h2 h3)
  have C2 := hide (fun V p h b hT h1 h2 h3 => readStripe_calls p h b P H B A least ok V hT hok hA h1 h2 h3)
  have xl := rsOth_le ok (rsX P H B least A)
  generalize rsOth ok (rsX P H B least A) = X at C1 C2 xl
  generalize dcT ok (rsX P H B least A) = tt at C1 C2
  clear hp hh hb hok hT
  have A0 := hide ((Hand.start w).box #[p, h, b] 37)
  go_enter Tryz.func11, Tryz.ntmps11
  go_wp2_with fail
  refine (szDisk_calls p h b P H B _ (RP.out.below A0.out.below) (RH.out.below A0.out.below) (RB.out.below A0.out.below)).mono ?_
  rintro e w1 ⟨⟨r, rfl, hr⟩, q⟩
  have A1 := hide (A0.out.step q)
  clear A0 q
  by_cases r0 : r < 0
  · go_wp2
    go_ret
    exact ⟨rfl, A1.out.below⟩
  have SZ := hide (hr.resolve_left r0).2.2
  have r1 := (hr.resolve_left r0).2.1
  clear hr
  obtain ⟨caD0, caD1, caD2⟩ := (A1.out.atBox 0 rfl).c3
  go_wp2_with fail
  refine (toDisk_calls p h b P H B _ (RP.out.below A1.out.below) (RH.out.below A1.out.below) (RB.out.below A1.out.below) SZ.out).mono ?_
  rintro e w2 ⟨px, hx, bx, rfl, d, q⟩
  obtain ⟨apx, cpx, ahx, chx, abx, cbx, rfl, rfl, rfl⟩ := d.sl
  have ltx := q.size
  (try simp only [World.size_alloc] at ltx)
  have A2 := hide (A1.out.add q (TDsk.st _ _ _ _ _ _) d)
  clear A1 caD0 caD1 caD2 q d
  obtain ⟨lox, hix, dx⟩ := A2.out.get 0 rfl
  have Dx : Hid (DskV _ lox hix _ _ _ P H B) := dx
  clear dx
  go_wp2_with fail
  refine (C1.out _ _ _ _ Dx.out.rp Dx.out.rh Dx.out.rb).mono ?_
  rintro e w3 ⟨vy, rfl, o, q⟩
  obtain ⟨ay, cy, rfl⟩ := row_slice o
  have lty := q.size
  (try simp only [World.size_alloc] at lty)
  have A3 := hide (A2.out.add q (TInts.st _ _) ⟨o, row_top o⟩)
  clear A2 Dx lox hix q o
  obtain ⟨caD0, caD1, caD2⟩ := (A3.out.atBox 2 rfl).c3
  go_wp2_with fail
  refine (toDisk_calls p h b P H B _ (RP.out.below A3.out.below) (RH.out.below A3.out.below) (RB.out.below A3.out.below) SZ.out).mono ?_
  rintro e w4 ⟨pz, hz, bz, rfl, d, q⟩
  obtain ⟨apz, cpz, ahz, chz, abz, cbz, rfl, rfl, rfl⟩ := d.sl
  have ltz := q.size
  (try simp only [World.size_alloc] at ltz)
  have A4 := hide ((A3.out.add q (TDsk.st _ _ _ _ _ _) d).box #[.slice apz P.length cpz, .slice ahz H.length chz, .slice abz B.length cbz] 26)
  clear A3 caD0 caD1 caD2 q d
  obtain ⟨cx00, cx01, cx02⟩ := (A4.out.atBox 0 rfl).c3
  obtain ⟨loz, hiz, dz⟩ := A4.out.get 1 rfl
  have Dz : Hid (DskV _ loz hiz _ _ _ P H B) := dz
  clear dz
  go_wp2_with fail
  refine (C2.out _ _ _ _ (Gf.Tab.below TT.out A4.out.below) Dz.out.rp Dz.out.rh Dz.out.rb).mono ?_
  rintro e w5 ⟨vu, rfl, o, q⟩
  obtain ⟨au, cu, rfl⟩ := row_slice o
  have ltu := q.size
  (try simp only [World.size_alloc] at ltu)
  have A5 := hide (A4.out.add q (TInts.st _ _) ⟨o, row_top o⟩)
  clear A4 cx00 cx01 cx02 Dz loz hiz q o
  obtain ⟨lou, hiu, du⟩ := A5.out.get 0 rfl
  have Du : Hid (Own _ lou _ X) := du.1
  clear du
  obtain ⟨loy, hiy, dy⟩ := A5.out.get 3 rfl
  have Dy : Hid (Own _ loy _ X) := dy.1
  clear dy
  go_wp2_with fail
  refine (eqIntS_same _ _ X _ Du.out.rd Dy.out.rd).mono ?_
  rintro e w6 ⟨rfl, q⟩
  have A6 := hide (A5.out.step q)
  clear A5 Du lou hiu Dy loy hiy q
  go_wp2
  obtain ⟨lo, hi, dd⟩ := A6.out.get 2 rfl
  have D5 : Hid (DskV _ lo hi _ _ _ P H B) := dd
  clear dd
  have F : Hid (∀ w', Below w6.heap.size w6 w' → (w'.cell? ⟨w.heap.size, 0, none⟩ = some p ∧ w'.cell? ⟨w.heap.size, 1, none⟩ = some h ∧ w'.cell? ⟨w.heap.size, 2, none⟩ = some b) ∧ (w'.cell? ⟨w4.heap.size, 0, none⟩ = some (.slice apz P.length cpz) ∧ w'.cell? ⟨w4.heap.size, 1, none⟩ = some (.slice ahz H.length chz) ∧ w'.cell? ⟨w4.heap.size, 2, none⟩ = some (.slice abz B.length cbz))) :=
    fun w' hb => ⟨((A6.out.step hb).atBox 5 rfl).c3, ((A6.out.step hb).atBox 1 rfl).c3⟩
  go_region_held3 (fun w' => (w'.cell? ⟨w.heap.size, 0, none⟩ = some p ∧ w'.cell? ⟨w.heap.size, 1, none⟩ = some h ∧ w'.cell? ⟨w.heap.size, 2, none⟩ = some b) ∧ (w'.cell? ⟨w4.heap.size, 0, none⟩ = some (.slice apz P.length cpz) ∧ w'.cell? ⟨w4.heap.size, 1, none⟩ = some (.slice ahz H.length chz) ∧ w'.cell? ⟨w4.heap.size, 2, none⟩ = some (.slice abz B.length cbz))) (first | exact F.out _ (Below.refl _ _).drew | exact F.out _ B2.out | exact F.out _ B1.out)
    ((first | (go_at_call 50; refine (eqDisk_same _ _ _ _ _ _ P H B _ (D5.out.below B1.out).rp (D5.out.below B1.out).rh (D5.out.below B1.out).rb D6.out.rp D6.out.rh D6.out.rb).mono ?_; rintro e' wr7 ⟨rfl, b7⟩; have B2 := hide (B1.out.trans (b7.mono B1.out.size)); clear b7) | (go_at_call 48; refine (toDisk_calls p h b P H B _ (RP.out.below (A6.out.step (Below.refl _ _).drew).below) (RH.out.below (A6.out.step (Below.refl _ _).drew).below) (RB.out.below (A6.out.step (Below.refl _ _).drew).below) SZ.out).mono ?_; rintro e' wr6 ⟨p3, h3, b3, rfl, d6, b6⟩; have D6 := hide d6; have B1 := hide ((Below.refl w6.heap.size w6).drew.trans b6); clear b6 d6)))
  have A7 := hide (A6.out.step B2.out)
  clear A6 F B1 B2 D5 D6 lo hi
  have zb : P.length ≤ 1048576 ∧ H.length ≤ 1048576 ∧ B.length ≤ 1048576 := SZ.out
  obtain ⟨cx00, cx01, cx02⟩ := (A7.out.atBox 1 rfl).c3
  obtain ⟨loz, hiz, dz, lw, hw, put⟩ := A7.out.open 2 rfl
  have Dz : Hid (DskV _ loz hiz _ _ _ P H B) := dz
  have PUT := hide put
  clear dz put lw
  go_wp2_with fail
  refine (markDisk_calls _ _ _ P H B 1 loz hiz _ Dz.out hw (by omega) (by omega) SZ.out).mono ?_
  rintro e w8 ⟨rfl, d4, q⟩
  have A8 := hide (PUT.out _ (TDsk _ _ _ _ _ _) (TDsk.st _ _ _ _ _ _) d4 q)
  clear A7 cx00 cx01 cx02 Dz loz hiz PUT hw q d4
  have kk : ¬ ((1 + P.length + H.length + B.length : Nat) : Int) < 0 := by omega
  obtain ⟨lou, hiu, du⟩ := A8.out.get 0 rfl
  have Du : Hid (Own _ lou _ X) := du.1
  clear du
  obtain ⟨loy, hiy, dy⟩ := A8.out.get 3 rfl
  have Dy : Hid (Own _ loy _ X) := dy.1
  clear dy
  go_wp2_with fail
  refine (eqIntS_same _ _ X _ Du.out.rd Dy.out.rd).mono ?_
  rintro e w9 ⟨rfl, q⟩
  have A9 := hide (A8.out.step q)
  clear A8 Du lou hiu Dy loy hiy q
  obtain ⟨lou, hiu, du, lw, hw, put⟩ := A9.out.open 0 rfl
  have Du : Hid (Own _ lou _ X) := du.1
  have TDu := hide du.2
  have PUT := hide put
  clear du put lw
  go_wp2_with fail
  refine (markIntS_calls _ X 1 lou _ Du.out (by omega) (by omega) (by omega)).mono ?_
  rintro e w10 ⟨rfl, o4, g4⟩
  have A10 := hide (PUT.out _ (TInts _ _) (TInts.st _ _) ⟨o4, TDu.out⟩ (Chg.ofGrown g4 (fun j hj => ⟨row_low Du.out j hj, TDu.out j hj⟩)))
  clear A9 TDu Du lou hiu PUT hw o4 g4
  obtain ⟨lou, hiu, du⟩ := A10.out.get 0 rfl
  have Du : Hid (Own _ lou _ (marks 1 X.length)) := du.1
  clear du
  go_wp2_with fail
  refine (heldIntS_calls _ X.length 1 _ Du.out.rd (by omega) (by omega) (by omega)).mono ?_
  rintro e w11 ⟨rfl, rfl⟩
  clear Du lou hiu
  obtain ⟨caD0, caD1, caD2⟩ := (A10.out.atBox 5 rfl).c3
  go_wp2_with fail
  refine (toDisk_calls p h b P H B _ (RP.out.below A10.out.below) (RH.out.below A10.out.below) (RB.out.below A10.out.below) SZ.out).mono ?_
  rintro e w12 ⟨pq1, hq1, bq1, rfl, d, q⟩
  obtain ⟨apq1, cpq1, ahq1, chq1, abq1, cbq1, rfl, rfl, rfl⟩ := d.sl
  have ltq1 := q.size
  (try simp only [World.size_alloc] at ltq1)
  have A12 := hide (A10.out.add q (TDsk.st _ _ _ _ _ _) d)
  clear A10 caD0 caD1 caD2 q d
  obtain ⟨loq1, hiq1, dq1⟩ := A12.out.get 0 rfl
  have Dq1 : Hid (DskV _ loq1 hiq1 _ _ _ P H B) := dq1
  clear dq1
  go_wp2_with fail
  refine (C2.out _ _ _ _ (Gf.Tab.below TT.out A12.out.below) Dq1.out.rp Dq1.out.rh Dq1.out.rb).mono ?_
  rintro e w13 ⟨vv, rfl, o, q⟩
  obtain ⟨av, cv, rfl⟩ := row_slice o
  have ltv := q.size
  (try simp only [World.size_alloc] at ltv)
  have A13 := hide (A12.out.add q (TInts.st _ _) ⟨o, row_top o⟩)
  clear A12 Dq1 loq1 hiq1 q o
  obtain ⟨lov, hiv, dv⟩ := A13.out.get 0 rfl
  have Dv : Hid (Own _ lov _ X) := dv.1
  clear dv
  obtain ⟨loy, hiy, dy⟩ := A13.out.get 5 rfl
  have Dy : Hid (Own _ loy _ X) := dy.1
  clear dy
  go_wp2_with fail
  refine (eqIntS_same _ _ X _ Dv.out.rd Dy.out.rd).mono ?_
  rintro e w14 ⟨rfl, q⟩
  have A14 := hide (A13.out.step q)
  clear A13 Dv lov hiv Dy loy hiy q
  obtain ⟨lou, hiu, du⟩ := A14.out.get 2 rfl
  have Du : Hid (Own _ lou _ (marks 1 X.length)) := du.1
  clear du
  go_wp2_with fail
  refine (heldIntS_calls _ X.length 1 _ Du.out.rd (by omega) (by omega) (by omega)).mono ?_
  rintro e w15 ⟨rfl, rfl⟩
  clear Du lou hiu
  go_wp2
  go_ret
  exact ⟨rfl, A14.out.below⟩
end Go.Proofs.YtbgadbokejaomaaGreatDoor

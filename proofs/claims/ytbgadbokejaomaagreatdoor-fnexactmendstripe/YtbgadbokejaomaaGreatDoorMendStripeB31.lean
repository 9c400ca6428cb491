/-
  A stripe read by the model: l8Read and ReadStripe. Each contract says what it asks. Where something is held: the program's HeldIn and its model's, call by call. Each contract says what it asks. 'append' to a new, empty row, as one step of a statement that leaves its order open: rows of texts, rows of Booleans. No condition; no call is walked here.
-/
import Derived.Test.YtbgadbokejaomaaGreatDoorMendStripeB29
import Derived.Test.YtbgadbokejaomaaGreatDoorMendStripeB30
import Derived.Test.YtbgadbokejaomaaGreatDoorMendStripeB8
import Derived.Deep.AppendLies
namespace Go.Proofs.YtbgadbokejaomaaGreatDoor
open Go.RowKit
open Gf (ci nat)
set_option linter.unusedVariables false

def TSn (vm ve : Value) (vs : List Value) (m : List (List Int)) (es : List Int) : Tg := fun lo hi w => Sn w lo hi vm ve vs m es
theorem TSn.st (vm ve : Value) (vs : List Value) (m : List (List Int)) (es : List Int) : (TSn vm ve vs m es).st := fun lo hi a b w w' h hc hd => ⟨h.mat.chg hc hd, ownsRow_chg h.ep h.te hc hd, h.te, h.ne⟩
theorem bdL_bdC (xs : List Pc) : bdL xs = bdC xs := rfl

set_option maxRecDepth 100000 in
set_option maxHeartbeats 3200000 in
theorem l8Read_calls (p h b : Value) (P H : List ByteArray) (B : List Bool) (a : Nat) (least : Int) (w : World) (gk : gkP P H B) (ha5 : a + 5 ≤ P.length) (hp : RdT w p P) (hh : RdT w h H) (hb : RdZ w b B) :
    Calls Tryz.prog 105 #[.agg #[p, h, b], .int .i64 (a : Int), .int .i64 least] w fun e w' => ∃ vm vo, e = .returned (.tuple #[vm, vo, .int .i64 (rtX (skL P H B least a))]) ∧ (0 ≤ rtX (skL P H B least a) → Mat w' w.heap.size w'.heap.size vm (dcM (skL P H B least a))) ∧ Own w' w.heap.size vo (if 0 ≤ rtX (skL P H B least a) then othE ((skL P H B least a).map epo) (rtX (skL P H B least a)) 5 else []) ∧ Below w.heap.size w w' := by
  have RP := hide hp
  have RH := hide hh
  have RB := hide hb
  have C1 := hide (fun W h1 h2 h3 => l8Seen_calls p h b P H B a least W gk ha5 h1 h2 h3)
  obtain ⟨xs, hxs⟩ : ∃ xs, xs = skL P H B least a := ⟨_, rfl⟩
  have xl : xs.length = 5 := by rw [hxs, skL_length]
  have xok : ∀ k, okP (xs.getD k none) := by rw [hxs]; exact skL_ok _ _ _ _ _
  rw [← hxs] at C1 ⊢
  rw [bdL_bdC] at C1
  have hel : (xs.map epo).length = 5 := by rw [List.length_map, xl]
  have C2 := hide (fun W v (hv : Rd W v (xs.map epo)) => l8Right_calls v (xs.map epo) W hv (by omega))
  rw [hel] at C2
  have DY := hide (fun hr => (dc_yes xl xok hr).2)
  have C3 := hide (fun W vm vo hr hm ho => l3Decode_calls 3 2 16 vm vo (bdC xs) (othE (xs.map epo) (rtX xs) 5) W hm ho (DY.out hr))
  have RG : Hid (-1 ≤ rtX xs) := rtE_ge _ _
  have C2' : Hid (∀ W v, Rd W v (xs.map epo) → Calls Tryz.prog 149 #[v] W fun e w' => e = .returned (.int .i64 (rtX xs)) ∧ W = w') := C2.out
  have C3' : Hid (∀ W vm vo, 0 ≤ rtX xs → RdM W vm (bdC xs) → Rd W vo (othE (xs.map epo) (rtX xs) 5) → Calls Tryz.prog 150 #[.int .i64 3, .int .i64 2, vm, vo] W fun e w' => ∃ v', e = .returned v' ∧ Mat w' W.heap.size w'.heap.size v' (dcM xs) ∧ Below W.heap.size W w') := C3.out
  obtain ⟨ot, hot⟩ : ∃ ot : Nat → List Int, ot = othE (xs.map epo) (rtX xs) := ⟨_, rfl⟩
  have o0 : ot 0 = [] := by rw [hot]; rfl
  have os : ∀ k, ot (k + 1) = if (xs.map epo).getD k 0 = rtX xs ∧ 0 ≤ (xs.map epo).getD k 0 then ot k else ot k ++ [(k : Int)] := by
    intro k
    rw [hot]
    show (if (!isE (rtX xs) ((xs.map epo).getD k 0)) = true then _ else _) = _
    unfold isE
    by_cases hh : (xs.map epo).getD k 0 = rtX xs ∧ 0 ≤ (xs.map epo).getD k 0
    · rw [if_pos hh, decide_eq_true hh]; rfl
    · rw [if_neg hh, decide_eq_false hh]; rfl
  have ol : ∀ k, (ot k).length ≤ k := by intro k; rw [hot]; exact pkE_le _ _ _
  have e5 : othE (xs.map epo) (rtX xs) 5 = ot 5 := by rw [hot]
  rw [e5] at C3' ⊢
  have O0 := hide o0
  have OS := hide os
  have OL := hide ol
  have EL := hide hel
  clear C2 C3 DY hxs xl xok hot o0 os ol e5 hel hp hh hb gk ha5
  generalize xs.map epo = es at *
  generalize bdC xs = M at *
  generalize dcM xs = dm at *
  generalize rtX xs = r at *
  obtain ⟨oo, hoo⟩ : ∃ oo, oo = (if 0 ≤ r then ot 5 else []) := ⟨_, rfl⟩
  rw [← hoo]
  have HOO := hide hoo
  clear hoo
  have A0 := hide ((Hand.start w).box #[p, h, b] 26)
  obtain ⟨c0, c1, c2⟩ := (A0.out.atBox 0 rfl).c3
  go_enter Tryz.func105, Tryz.ntmps105
  go_wp2_with fail
  refine (C1.out _ (RP.out.below A0.out.below) (RH.out.below A0.out.below) (RB.out.below A0.out.below)).mono ?_
  rintro e w1 ⟨vm, ve, vs, rfl, sn, q⟩
  have RE := hide (Own.rd sn.ep)
  have A1 := hide ((A0.out.add q (TSn.st vm ve vs M es) sn).add (Below.refl _ _) (TInts.st (.slice none 0 0) []) ⟨World.ownsRow_nil _ _ _ _, fun k hk => by simp [Value.ownBlock] at hk⟩)
  clear q sn A0 c0 c1 c2
  go_wp2_with fail
  refine (C2'.out _ _ RE.out).mono ?_
  rintro e w2 ⟨rfl, rfl⟩
  obtain ⟨ae, ce, hve, _⟩ := RE.out
  rw [EL.out] at hve
  subst hve
  clear RE
  go_wp2
  go_loopw [12, 13, 14, 26] (fun vo _ _ vi wr => ∃ (k : Nat) (ao : Option Addr) (co : Nat), k ≤ 5 ∧ vi = .int .i64 k ∧ vo = .slice ao (ot k).length co ∧ Hand w wr [TInts (.slice ao (ot k).length co) (ot k), TSn vm (.slice ae 5 ce) vs M es, TBox w.heap.size #[p, h, b] 26]) (fun _ _ _ vi _ => 5 - (intOf vi).toNat)
  case atStart =>
    refine ⟨0, none, 0, Nat.zero_le _, rfl, by rw [O0.out]; rfl, ?_⟩
    rw [O0.out]
    exact A1.out
  case round =>
    clear A1
    obtain ⟨k, ao, co, hk, rfl, rfl, hH⟩ := hrel
    have AH := hide hH
    clear hH
    have l1 := OL.out k
    by_cases hlt : k < 5
    · have hlt' : (k : Int) < 5 := by omega
      obtain ⟨y1, y2, sn⟩ := AH.out.get 1 rfl
      obtain ⟨a', c', e', _, _, h3⟩ := Own.rd sn.ep
      simp only [Value.slice.injEq] at e'
      obtain ⟨rfl, e5, rfl⟩ := e'
      clear e5
      rcases h3 with h3 | ⟨b', off, hba, hbs, hc⟩
      · have := EL.out
        rw [h3] at this
        simp at this
      subst hba
      have hck := hc k (by rw [EL.out]; exact hlt)
      have S := hide (OS.out k)
      generalize es.getD k 0 = E at hck S
      clear hc sn y1 y2 hbs
      by_cases hE : E = r ∧ 0 ≤ E
      · have e1 : Hid (ot (k + 1) = ot k) := by show _ = _; rw [S.out, if_pos hE]
        obtain ⟨hE1, hE2⟩ := hE
        subst hE1
        have hE3 : ¬ E < 0 := by omega
        have hE4 : decide (E < 0) = false := decide_eq_false hE3
        clear S
        go_wp2
        go_roundw
        case rel =>
          refine ⟨k + 1, ao, co, by omega, by go_num, by rw [e1.out], ?_⟩
          rw [e1.out]
          exact AH.out
        case measure => simp [intOf]; omega
      · have e1 : Hid (ot (k + 1) = ot k ++ [(k : Int)]) := by show _ = _; rw [S.out, if_neg hE]
        have HL4 : Hid ((ot (k + 1)).length = (ot k).length + 1) := by show _ = _; rw [e1.out, List.length_append]; rfl
        clear S
        have A2 := hide (AH.out.step (below_box wr (.cells #[.int .i64 (k : Int)] 3)))
        obtain ⟨zl, zh, tw, t1, t2, t3, put⟩ := A2.out.openTop
        have TW := hide tw
        have PUT := hide put
        clear tw put
        have FIN : Hid (∀ g4 c4 w4, w4.ownsRow zl 3 1 (.slice (some ⟨g4, 0, none⟩) ((ot k).length + 1) c4) ((ot k).length + 1) ((ot k).map (Value.int .i64) ++ [Value.int .i64 (k : Int)]) → (wr.alloc (.cells #[.int .i64 (k : Int)] 3)).grownBy w4 (Value.slice ao (ot k).length co).ownBlock → g4 < w4.heap.size → Hand w w4 [TInts (.slice (some ⟨g4, 0, none⟩) (ot (k + 1)).length c4) (ot (k + 1)), TSn vm (.slice (some ⟨b', off, none⟩) 5 ce) vs M es, TBox w.heap.size #[p, h, b] 26]) := by
          show ∀ g4 c4 w4, _
          intro g4 c4 w4 o4 p4 r4
          refine PUT.out w4 (TInts (.slice (some ⟨g4, 0, none⟩) (ot (k + 1)).length c4) (ot (k + 1))) (TInts.st _ _) ⟨?_, fun z hz => ?_⟩ (Chg.ofGrown p4 fun z hz => ⟨row_low TW.out.1 z hz, Nat.lt_of_lt_of_le (TW.out.2 z hz) t2⟩)
          · show World.ownsRow _ _ _ _ _ (ot (k + 1)).length _
            rw [HL4.out, e1.out, List.map_append]
            exact o4
          · simp [Value.ownBlock] at hz
            omega
        by_cases hE1 : E = r
        · have hE2 : E < 0 := by omega
          subst hE1
          go_wp2_with (at_builtin; refine wpList_append_int1 rfl _ _ rfl zl _ (ot k).length (ot k) k rfl TW.out.1 wr.heap.size rfl (World.cell?_alloc_at _ _ _ _ (by simp)) (by omega) (by omega) ?_)
          intro g4 c4 w4 o4 p4 q4 r4
          have A5 := hide (FIN.out g4 c4 w4 o4 p4 r4)
          clear o4 p4 q4 r4 TW PUT FIN A2 AH
          go_wp2
          go_roundw
          case rel => exact ⟨k + 1, some ⟨g4, 0, none⟩, c4, by omega, by go_num, by rw [HL4.out], A5.out⟩
          case measure => simp [intOf]; omega
        · have hE2 : (E == r) = false := by simpa using hE1
          have hE3 : (E != r) = true := by simpa using hE1
          go_wp2_with (at_builtin; refine wpList_append_int1 rfl _ _ rfl zl _ (ot k).length (ot k) k rfl TW.out.1 wr.heap.size rfl (World.cell?_alloc_at _ _ _ _ (by simp)) (by omega) (by omega) ?_)
          intro g4 c4 w4 o4 p4 q4 r4
          have A5 := hide (FIN.out g4 c4 w4 o4 p4 r4)
          clear o4 p4 q4 r4 TW PUT FIN A2 AH
          go_wp2
          go_roundw
          case rel => exact ⟨k + 1, some ⟨g4, 0, none⟩, c4, by omega, by go_num, by rw [HL4.out], A5.out⟩
          case measure => simp [intOf]; omega
    · obtain rfl : k = 5 := by omega
      by_cases hr : 0 ≤ r
      · have hr' : ¬ r < 0 := by omega
        have eo : oo = ot 5 := by rw [HOO.out, if_pos hr]
        subst eo
        obtain ⟨lo, hi, ⟨oo, ot'⟩, lw, hw, _⟩ := AH.out.open 0 rfl
        obtain ⟨y1, y2, sn⟩ := AH.out.get 1 rfl
        have RM := hide sn.mat.rd
        have RO := hide (Own.rd oo)
        have OO := hide oo
        clear oo ot' sn y1 y2
        go_wp2_with fail
        refine (C3'.out _ _ _ hr RM.out RO.out).mono ?_
        rintro e w5 ⟨v5, rfl, m5, q⟩
        have M5 := hide (m5.wider AH.out.below.size (Nat.le_refl _))
        have O5 := hide (Own.mono (OO.out.below q) lw)
        have A5 := hide (AH.out.step q)
        clear q m5 AH
        go_wp2
        go_ret3
        exact ⟨_, _, rfl, fun _ => M5.out, O5.out, A5.out.below⟩
      · have hr' : r < 0 := by omega
        have er : r = -1 := by have := RG.out; omega
        have eo : oo = [] := by rw [HOO.out, if_neg hr]
        subst eo
        subst er
        go_wp2
        go_ret3
        first | exact ⟨_, _, rfl, World.ownsRow_nil _ _ _ _, AH.out.below⟩ | exact ⟨_, rfl, World.ownsRow_nil _ _ _ _, AH.out.below⟩

set_option maxRecDepth 100000 in
set_option maxHeartbeats 1600000 in
theorem sReadStripe_calls (p h b : Value) (P H : List ByteArray) (B : List Bool) (A least : Int) (ok : Bool) (w : World) (hok : ok = true ↔ ((gkP P H B ∧ ftP P A) ∧ dcOk (rsX P H B least A))) (hp : RdT w p P) (hh : RdT w h H) (hb : RdZ w b B) :
    Calls Tryz.prog 53 #[.agg #[p, h, b], .int .i64 A, .int .i64 least] w fun e w' => ∃ v', e = .returned (.tuple #[.string (dcT ok (rsX P H B least A)), v', .bool ok]) ∧ Own w' w.heap.size v' (rsOth ok (rsX P H B least A)) ∧ Below w.heap.size w w' := by
  have RP := hide hp
  have RH := hide hh
  have RB := hide hb
  have HOK := hide hok
  obtain ⟨g, hg⟩ := gk_bool' P H B
  have HG := hide hg
  have C1 := hide (fun W h1 h2 h3 => sGoodDisk_calls p h b P H B g W hg h1 h2 h3)
  have A0 := hide ((Hand.start w).box #[p, h, b] 26)
  obtain ⟨c0, c1, c2⟩ := (A0.out.atBox 0 rfl).c3
  obtain ⟨ap, cp, rfl, mp, _⟩ := hp.sl
  obtain ⟨ah, ch, rfl, mh, _⟩ := hh.sl
  obtain ⟨ab, cb, rfl, mb, _⟩ := hb.sl
  have FALSE : Hid (¬ ((gkP P H B ∧ ftP P A) ∧ dcOk (rsX P H B least A)) → ok = false) := fun h => by
    cases ok with
    | false => rfl
    | true => exact absurd (HOK.out.1 rfl) h
  clear hp hh hb hok hg mp mh mb
  cases g with
  | false =>
    obtain rfl := FALSE.out (fun h' => by have := HG.out.2 h'.1.1; simp at this)
    show Calls _ _ _ _ fun e w' => ∃ v', e = .returned (.tuple #[.string ⟨#[]⟩, v', .bool false]) ∧ Own w' w.heap.size v' [] ∧ Below w.heap.size w w'
    go_enter Tryz.func53, Tryz.ntmps53
    go_wp2_with fail
    refine (C1.out _ (RP.out.below A0.out.below) (RH.out.below A0.out.below) (RB.out.below A0.out.below)).mono ?_
    rintro e w1 ⟨rfl, q⟩
    have A1 := hide (A0.out.step q)
    clear q A0 c0 c1 c2
    go_wp2
    go_ret3
    exact ⟨_, rfl, World.ownsRow_nil _ _ _ _, A1.out.below⟩
  | true =>
  have GK := hide (HG.out.1 rfl)
  have n24 : P.length ≤ 24 := GK.out.1.2
  obtain ⟨f, hf⟩ : ∃ f : Bool, f = true ↔ ftP P A := by
    by_cases hx : ftP P A
    · exact ⟨true, by simp [hx]⟩
    · exact ⟨false, by simp [hx]⟩
  have C2 := hide (fun W x y z t => l8Fits_calls x y z t P A f W hf n24)
  have HF := hide hf
  clear hf
  cases f with
  | false =>
    obtain rfl := FALSE.out (fun h' => by have := HF.out.2 h'.1.2; simp at this)
    show Calls _ _ _ _ fun e w' => ∃ v', e = .returned (.tuple #[.string ⟨#[]⟩, v', .bool false]) ∧ Own w' w.heap.size v' [] ∧ Below w.heap.size w w'
    go_enter Tryz.func53, Tryz.ntmps53
    go_wp2_with fail
    refine (C1.out _ (RP.out.below A0.out.below) (RH.out.below A0.out.below) (RB.out.below A0.out.below)).mono ?_
    rintro e w1 ⟨rfl, q⟩
    have A1 := hide (A0.out.step q)
    clear q A0 c0 c1 c2
    obtain ⟨c0, c1, c2⟩ := (A1.out.atBox 0 rfl).c3
    go_wp2_with fail
    refine (C2.out _ _ _ _ _).mono ?_
    rintro e w2 ⟨rfl, q⟩
    have A2 := hide (A1.out.step q)
    clear q A1 c0 c1 c2
    go_wp2
    go_ret3
    exact ⟨_, rfl, World.ownsRow_nil _ _ _ _, A2.out.below⟩
  | true =>
  have FT := hide (HF.out.1 rfl)
  obtain ⟨a, rfl⟩ : ∃ a : Nat, A = (a : Int) := ⟨A.toNat, by have := FT.out.1; omega⟩
  have ha5 : a + 5 ≤ P.length := by have := FT.out.2; omega
  have HD : Hid (ok = true ↔ dcOk (rsX P H B least (a : Int))) := by show _ ↔ _; rw [HOK.out]; exact ⟨fun h => h.2, fun h => ⟨⟨GK.out, FT.out⟩, h⟩⟩
  have ex : rsX P H B least (a : Int) = skL P H B least a := by unfold rsX; rw [Int.toNat_natCast]
  rw [ex] at HD
  rw [ex]
  have C3 := hide (fun W h1 h2 h3 => l8Read_calls (.slice ap P.length cp) (.slice ah H.length ch) (.slice ab B.length cb) P H B a least W GK.out ha5 h1 h2 h3)
  obtain ⟨xs, hxs⟩ : ∃ xs, xs = skL P H B least a := ⟨_, rfl⟩
  have xl : xs.length = 5 := by rw [hxs, skL_length]
  have xok : ∀ k, okP (xs.getD k none) := by rw [hxs]; exact skL_ok _ _ _ _ _
  rw [← hxs] at C3 HD ⊢
  have RO : Hid (ok = true → rsOth ok xs = othE (xs.map epo) (rtX xs) 5) := fun e => by unfold rsOth; rw [if_pos e]
  have RN : Hid (ok = false → rsOth ok xs = [] ∧ dcT ok xs = ⟨#[]⟩) := fun e => ⟨by unfold rsOth; rw [e]; rfl, by unfold dcT; rw [e]; rfl⟩
  clear HOK HF FT FALSE HG ex hxs
  by_cases hr : 0 ≤ rtX xs
  case neg =>
    have okf : ok = false := by
      cases ok with
      | false => rfl
      | true => exact absurd (HD.out.1 rfl).1 hr
    subst okf
    obtain ⟨e1, e2⟩ := RN.out rfl
    rw [e1, e2]
    have hr' : rtX xs < 0 := by omega
    generalize rtX xs = r at *
    generalize (if 0 ≤ r then othE (xs.map epo) r 5 else []) = oo at *
    clear e1 e2 RO RN HD xl xok
    go_enter Tryz.func53, Tryz.ntmps53
    go_wp2_with fail
    refine (C1.out _ (RP.out.below A0.out.below) (RH.out.below A0.out.below) (RB.out.below A0.out.below)).mono ?_
    rintro e w1 ⟨rfl, q⟩
    have A1 := hide (A0.out.step q)
    clear q A0 c0 c1 c2
    obtain ⟨c0, c1, c2⟩ := (A1.out.atBox 0 rfl).c3
    go_wp2_with fail
    refine (C2.out _ _ _ _ _).mono ?_
    rintro e w2 ⟨rfl, q⟩
    have A2 := hide (A1.out.step q)
    clear q A1 c0 c1 c2
    obtain ⟨c0, c1, c2⟩ := (A2.out.atBox 0 rfl).c3
    go_wp2_with fail
    refine (C3.out _ (RP.out.below A2.out.below) (RH.out.below A2.out.below) (RB.out.below A2.out.below)).mono ?_
    rintro e w3 ⟨vm, vo, rfl, m3, o3, q⟩
    have A3 := hide (A2.out.step q)
    clear q A2 c0 c1 c2 m3 o3
    go_wp2
    go_ret3
    exact ⟨_, rfl, World.ownsRow_nil _ _ _ _, A3.out.below⟩
  have hy : ok = true ↔ tfP (dcM xs) := by rw [HD.out]; exact ⟨fun h => h.2, fun h => ⟨hr, h⟩⟩
  have C4 := hide (fun W v hv => l8From_calls v (dcM xs) ok W hy hv (tf_r16 (dc_tf xl xok hr)).1)
  have er : (if ok = true then tfT (dcM xs) else ⟨#[]⟩) = dcT ok xs := rfl
  rw [er] at C4
  rw [if_pos hr] at C3
  have hr' : ¬ rtX xs < 0 := by omega
  generalize rsOth ok xs = oo at *
  generalize dcT ok xs = tt at *
  generalize othE (xs.map epo) (rtX xs) 5 = ot at *
  generalize rtX xs = r at *
  generalize dcM xs = dm at *
  clear HD xl xok er hy
  go_enter Tryz.func53, Tryz.ntmps53
  go_wp2_with fail
  refine (C1.out _ (RP.out.below A0.out.below) (RH.out.below A0.out.below) (RB.out.below A0.out.below)).mono ?_
  rintro e w1 ⟨rfl, q⟩
  have A1 := hide (A0.out.step q)
  clear q A0 c0 c1 c2
  obtain ⟨c0, c1, c2⟩ := (A1.out.atBox 0 rfl).c3
  go_wp2_with fail
  refine (C2.out _ _ _ _ _).mono ?_
  rintro e w2 ⟨rfl, q⟩
  have A2 := hide (A1.out.step q)
  clear q A1 c0 c1 c2
  obtain ⟨c0, c1, c2⟩ := (A2.out.atBox 0 rfl).c3
  go_wp2_with fail
  refine (C3.out _ (RP.out.below A2.out.below) (RH.out.below A2.out.below) (RB.out.below A2.out.below)).mono ?_
  rintro e w3 ⟨vm, vo, rfl, m3, o3, q⟩
  have RM := hide (m3 hr).rd
  have OO := hide (Own.mono o3 A2.out.below.size)
  have A3 := hide (A2.out.step q)
  clear q A2 c0 c1 c2 m3 o3
  go_wp2_with fail
  refine (C4.out _ _ RM.out).mono ?_
  rintro e w4 ⟨rfl, q⟩
  have A4 := hide (A3.out.step q)
  have O4 := hide (OO.out.below q)
  clear q A3 OO RM
  cases ok with
  | true =>
    have e1 := RO.out rfl
    subst e1
    go_wp2
    go_ret3
    exact ⟨_, rfl, O4.out, A4.out.below⟩
  | false =>
    obtain ⟨e1, e2⟩ := RN.out rfl
    subst e1
    subst e2
    go_wp2
    go_ret3
    exact ⟨_, rfl, World.ownsRow_nil _ _ _ _, A4.out.below⟩
theorem rs_bool (P H : List ByteArray) (B : List Bool) (A least : Int) : ∃ ok : Bool, ok = true ↔ ((gkP P H B ∧ ftP P A) ∧ dcOk (rsX P H B least A)) := by
  by_cases h : (gkP P H B ∧ ftP P A) ∧ dcOk (rsX P H B least A)
  · exact ⟨true, by simp [h]⟩
  · exact ⟨false, by simp [h]⟩
end Go.Proofs.YtbgadbokejaomaaGreatDoor

namespace Go.Proofs.YtbgadbokejaomaaGreatDoor
open Go.RowKit
set_option linter.unusedVariables false

/-- The places below k where something is held. -/
def hpl (H : List ByteArray) (k : Nat) : List Int := ((List.range k).filter fun i => decide (0 < (H.getD i ⟨#[]⟩).size)).map fun i : Nat => (i : Int)
end Go.Proofs.YtbgadbokejaomaaGreatDoor

namespace Go.Proofs.YtbgadbokejaomaaGreatDoor
open Go.RowKit
set_option linter.unusedVariables false

theorem step_app0 {W : World} {ops : Array Oper} {o : Oper} {a : Act} {K : Act → World → Prop} {Q : Exit → Act → World → Prop} {E : Prop} (hgd : o.guard = none) (s x : Operand) (t e : TypeId)
    (ho : o.op = .call { callee := .builtin .append, args := #[s, x], argTypes := #[t, t] }) (i : TypeInfo) (z : Value) (bytes : Nat) (ht : Tryz.prog.underlying t = some (.slice e)) (hi : Tryz.prog.info? e = some i) (hz : i.zero = some z)
    (hsize : i.size = 1) (hby : i.bytes = bytes) (hzs : z.cells.size = 1) (hb16 : bytes ≤ 16)
    (gs : Nat) (hs : a.eval s = .slice (some ⟨gs, 0, none⟩) 0 0) (ad : Addr) (m c : Nat) (news : List Value) (hx : a.eval x = .slice (some ad) m c) (hl : news.length = m) (hnews : ∀ j u, news[j]? = some u → W.cell? (ad.add j) = some u)
    (hm : 0 < m) (hn : m ≤ 24)
    (h : ∀ v' w', w'.ownsRow W.heap.size e 1 v' m news → Below W.heap.size W w' → K (a.put o.dst v') w') :
    if Region.wanted o (yielded ops a.tmps) = true then Oper.wp Tryz.prog o a W K Q else E := by
  have hw : Region.wanted o (yielded ops a.tmps) = true := by simp [Region.wanted, hgd]
  rw [if_pos hw]
  have h63 : 0 + m ≤ maxLen := by unfold maxLen; omega
  have hfit : Builtin.nextslicecap (0 + m) 0 * i.bytes ≤ 281474976710656 := by
    refine growslice_fits (by omega) ?_
    rw [hby]
    have h2 : (0 + m) * bytes ≤ 24 * 16 := Nat.mul_le_mul (by omega) hb16
    omega
  have hr := run_append_grow (P := Tryz.prog) W t o.type e i z ht hi hz ⟨gs, 0, none⟩ 0 0 [] (by simp) (fun j v hv => by simp at hv) ad m c news (by rw [hsize, Nat.mul_one]; exact hl) hnews (by omega) (by omega) hfit
  have hge := grownCap_ge W (0 + m) 0 e
  have hcm : grownCap W (0 + m) 0 e ≤ maxLen := grownCap_le_maxLen W (0 + m) 0 e h63
  rw [Nat.zero_add] at hr hge hcm
  unfold Oper.wp execOp
  simp only [ho, resolve, invoke, builtin, Sem.run_bind, Sem.run_pure, Result.andThen_ok, List.map_toArray, List.map_cons, List.map_nil, hs, hx, hr]
  refine h _ _ ⟨by rw [hl, Nat.mul_one], .inr ⟨W.heap.size, _, _, rfl, Nat.le_refl _, heap_alloc_new W.drew _, hge, hcm, ?_, ?_⟩⟩ ((Below.refl _ _).drew.alloc (by show _ ≤ W.heap.size; exact Nat.le_refl _) _)
  · simp only [Array.size_append, List.size_toArray, size_zeroCells, hzs, hl, List.length_nil]
    omega
  · simp only [Array.toList_append, List.nil_append, Nat.mul_one]
    rw [← hl]
    exact List.take_left

theorem step_app_txt {W : World} {ops : Array Oper} {o : Oper} {a : Act} {K : Act → World → Prop} {Q : Exit → Act → World → Prop} {E : Prop} (hgd : o.guard = none) (s x : Operand)
    (ho : o.op = .call { callee := .builtin .append, args := #[s, x], argTypes := #[22, 22] }) (gs : Nat) (hs : a.eval s = .slice (some ⟨gs, 0, none⟩) 0 0) (v : Value) (hx : a.eval x = v) (xs : List ByteArray) (hr : RdT W v xs) (hm : 0 < xs.length) (hn : xs.length ≤ 24)
    (h : ∀ v' w', OwnT w' W.heap.size v' xs → Below W.heap.size W w' → K (a.put o.dst v') w') :
    if Region.wanted o (yielded ops a.tmps) = true then Oper.wp Tryz.prog o a W K Q else E := by
  obtain ⟨i0, hi, hz0, hz1, hz2⟩ := info_parts infoStr
  obtain ⟨ad, cap, rfl, h1, h2, h4, h3⟩ := hr
  rcases h3 with h3 | ⟨b, off, rfl, hlt, hc⟩
  · subst h3; simp at hm
  refine step_app0 hgd s x 22 9 ho i0 (.string ⟨#[]⟩) 16 Tryz.underlying22 hi hz0 hz1 hz2 rfl (by omega) gs hs ⟨b, off, none⟩ xs.length cap (xs.map Value.string) hx (by simp) ?_ hm hn h
  intro j u hu
  have hjl : j < xs.length := by simpa using (List.getElem?_eq_some_iff.1 hu).1
  have hadd : (⟨b, off, none⟩ : Addr).add j = ⟨b, off + j, none⟩ := by unfold Addr.add; split <;> simp_all
  rw [hadd, hc j hjl]
  rw [List.getElem?_map, List.getElem?_eq_getElem hjl] at hu
  simp only [Option.map_some, Option.some.injEq] at hu
  rw [← hu, List.getD_eq_getElem?_getD, List.getElem?_eq_getElem hjl, Option.getD_some]
theorem step_app_bol {W : World} {ops : Array Oper} {o : Oper} {a : Act} {K : Act → World → Prop} {Q : Exit → Act → World → Prop} {E : Prop} (hgd : o.guard = none) (s x : Operand)
    (ho : o.op = .call { callee := .builtin .append, args := #[s, x], argTypes := #[24, 24] }) (gs : Nat) (hs : a.eval s = .slice (some ⟨gs, 0, none⟩) 0 0) (v : Value) (hx : a.eval x = v) (xs : List Bool) (hr : RdZ W v xs) (hm : 0 < xs.length) (hn : xs.length ≤ 24)
    (h : ∀ v' w', OwnZ w' W.heap.size v' xs → Below W.heap.size W w' → K (a.put o.dst v') w') :
    if Region.wanted o (yielded ops a.tmps) = true then Oper.wp Tryz.prog o a W K Q else E := by
  obtain ⟨i0, hi, hz0, hz1, hz2⟩ := info_parts infoBol
  obtain ⟨ad, cap, rfl, h1, h2, h3⟩ := hr
  rcases h3 with h3 | ⟨b, off, rfl, hlt, hc⟩
  · subst h3; simp at hm
  refine step_app0 hgd s x 24 4 ho i0 (.bool false) 1 Tryz.underlying24 hi hz0 hz1 hz2 rfl (by omega) gs hs ⟨b, off, none⟩ xs.length cap (xs.map Value.bool) hx (by simp) ?_ hm hn h
  intro j u hu
  have hjl : j < xs.length := by simpa using (List.getElem?_eq_some_iff.1 hu).1
  have hadd : (⟨b, off, none⟩ : Addr).add j = ⟨b, off + j, none⟩ := by unfold Addr.add; split <;> simp_all
  rw [hadd, hc j hjl]
  rw [List.getElem?_map, List.getElem?_eq_getElem hjl] at hu
  simp only [Option.map_some, Option.some.injEq] at hu
  rw [← hu, List.getD_eq_getElem?_getD, List.getElem?_eq_getElem hjl, Option.getD_some]
end Go.Proofs.YtbgadbokejaomaaGreatDoor

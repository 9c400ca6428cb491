/-
  A stripe read by the model: l8Read and ReadStripe. Each contract says what it asks. What a stripe of a scrub tells: hasStripe, firstSector, TextAt of the program; l16There, l16Text, TextAt of the model. The program's table of rests must hold its seven numbers where the program reads a stripe.
-/
import Derived.Test.YtbgadbokejaomaaGreatDoorDamageOfB31
import Derived.Test.YtbgadbokejaomaaGreatDoorDamageOfB32
import Derived.Test.YtbgadbokejaomaaGreatDoorDamageOfB12
import Derived.Deep.RegionHeld3
namespace Go.Proofs.YtbgadbokejaomaaGreatDoor
open Go.RowKit
open Gf (ci nat)
set_option linter.unusedVariables false

def TSn (vm ve : Value) (vs : List Value) (m : List (List Int)) (es : List Int) : Tg := fun lo hi w => Sn w lo hi vm ve vs m es
theorem TSn.st (vm ve : Value) (vs : List Value) (m : List (List Int)) (es : List Int) : (TSn vm ve vs m es).st := fun lo hi a b w w' h hc hd => ⟨h.mat.chg hc hd, ownsRow_chg h.ep h.te hc hd, h.te, h.ne⟩
theorem bdL_bdC (xs : List Pc) : bdL xs = bdC xs := rfl

set_option maxRecDepth 100000 in
set_option maxHeartbeats 3200000 in
theorem l8Read_calls (p h b : Value) (P H : List ByteArray) (B : List Bool) (a : Nat) (least : Int) (w : World) (gk : gkP P H B) (ha5 : a + 5 ≤ P.length) (hp : RdT w p P) (hh : RdT w h H) (hb : RdZ w b B) :
    Calls Tryz.prog 105 #[.agg #[p, h, b], .int .i64 (a : Int), .int .i64 least] w fun e w' => ∃ vm vo, e = .returned (.tuple #[vm, vo, .int .i64 (rtX (skL P H B least a))]) ∧ (0 ≤ rtX (skL P H B least a) → Mat w' w.heap.size w'.heap.size vm (dcM (skL P H B least a))) ∧ Own w' w.heap.size vo (if 0 ≤ rtX (skL P H B least a) then othE ((skL P H B least a).map epo) (rtX (skL P H B least a)) 5 else []) ∧ Below w.heap.size w w' := by
  have RP := hide hp
  have RH := hide hh
  have RB := hide hb
  have C1 := hide (fun W h1 h2 h3 => l8Seen_calls p h b P H B a least W gk ha5 h1 h2 h3)
  obtain ⟨xs, hxs⟩ : ∃ xs, xs = skL P H B least a := ⟨_, rfl⟩
  have xl : xs.length = 5 := by rw [hxs, skL_length]
  have xok : ∀ k, okP (xs.getD k none) := by rw [hxs]; exact skL_ok _ _ _ _ _
  rw [← hxs] at C1 ⊢
  rw [bdL_bdC] at C1
  have hel : (xs.map epo).length = 5 := by rw [List.length_map, xl]
  have C2 := hide (fun W v (hv : Rd W v (xs.map epo)) => l8Right_calls v (xs.map epo) W hv (by omega))
  rw [hel] at C2
  have DY := hide (fun hr => (dc_yes xl xok hr).2)
  have C3 := hide (fun W vm vo hr hm ho => l3Decode_calls 3 2 16 vm vo (bdC xs) (othE (xs.map epo) (rtX xs) 5) W hm ho (DY.out hr))
  have RG : Hid (-1 ≤ rtX xs) := rtE_ge _ _
  have C2' : Hid (∀ W v, Rd W v (xs.map epo) → Calls Tryz.prog 149 #[v] W fun e w' => e = .returned (.int .i64 (rtX xs)) ∧ W = w') := C2.out
  have C3' : Hid (∀ W vm vo, 0 ≤ rtX xs → RdM W vm (bdC xs) → Rd W vo (othE (xs.map epo) (rtX xs) 5) → Calls Tryz.prog 150 #[.int .i64 3, .int .i64 2, vm, vo] W fun e w' => ∃ v', e = .returned v' ∧ Mat w' W.heap.size w'.heap.size v' (dcM xs) ∧ Below W.heap.size W w') := C3.out
  obtain ⟨ot, hot⟩ : ∃ ot : Nat → List Int, ot = othE (xs.map epo) (rtX xs) := ⟨_, rfl⟩
  have o0 : ot 0 = [] := by rw [hot]; rfl
  have os : ∀ k, ot (k + 1) = if (xs.map epo).getD k 0 = rtX xs ∧ 0 ≤ (xs.map epo).getD k 0 then ot k else ot k ++ [(k : Int)] := by
    intro k
    rw [hot]
    show (if (!isE (rtX xs) ((xs.map epo).getD k 0)) = true then _ else _) = _
    unfold isE
    by_cases hh : (xs.map epo).getD k 0 = rtX xs ∧ 0 ≤ (xs.map epo).getD k 0
    · rw [if_pos hh, decide_eq_true hh]; rfl
    · rw [if_neg hh, decide_eq_false hh]; rfl
  have ol : ∀ k, (ot k).length ≤ k := by intro k; rw [hot]; exact pkE_le _ _ _
  have e5 : othE (xs.map epo) (rtX xs) 5 = ot 5 := by rw [hot]
  rw [e5] at C3' ⊢
  have O0 := hide o0
  have OS := hide os
  have OL := hide ol
  have EL := hide hel
  clear C2 C3 DY hxs xl xok hot o0 os ol e5 hel hp hh hb gk ha5
  generalize xs.map epo = es at *
  generalize bdC xs = M at *
  generalize dcM xs = dm at *
  generalize rtX xs = r at *
  obtain ⟨oo, hoo⟩ : ∃ oo, oo = (if 0 ≤ r then ot 5 else []) := ⟨_, rfl⟩
  rw [← hoo]
  have HOO := hide hoo
  clear hoo
  have A0 := hide ((Hand.start w).box #[p, h, b] 26)
  obtain ⟨c0, c1, c2⟩ := (A0.out.atBox 0 rfl).c3
  go_enter Tryz.func105, Tryz.ntmps105
  go_wp2_with fail
  refine (C1.out _ (RP.out.below A0.out.below) (RH.out.below A0.out.below) (RB.out.below A0.out.below)).mono ?_
  rintro e w1 ⟨vm, ve, vs, rfl, sn, q⟩
  have RE := hide (Own.rd sn.ep)
  have A1 := hide ((A0.out.add q (TSn.st vm ve vs M es) sn).add (Below.refl _ _) (TInts.st (.slice none 0 0) []) ⟨World.ownsRow_nil _ _ _ _, fun k hk => by simp [Value.ownBlock] at hk⟩)
  clear q sn A0 c0 c1 c2
  go_wp2_with fail
  refine (C2'.out _ _ RE.out).mono ?_
  rintro e w2 ⟨rfl, rfl⟩
  obtain ⟨ae, ce, hve, _⟩ := RE.out
  rw [EL.out] at hve
  subst hve
  clear RE
  go_wp2
  go_loopw [12, 13, 14, 26] (fun vo _ _ vi wr => ∃ (k : Nat) (ao : Option Addr) (co : Nat), k ≤ 5 ∧ vi = .int .i64 k ∧ vo = .slice ao (ot k).length co ∧ Hand w wr [TInts (.slice ao (ot k).length co) (ot k), TSn vm (.slice ae 5 ce) vs M es, TBox w.heap.size #[p, h, b] 26]) (fun _ _ _ vi _ => 5 - (intOf vi).toNat)
  case atStart =>
    refine ⟨0, none, 0, Nat.zero_le _, rfl, by rw [O0.out]; rfl, ?_⟩
    rw [O0.out]
    exact A1.out
  case round =>
    clear A1
    obtain ⟨k, ao, co, hk, rfl, rfl, hH⟩ := hrel
    have AH := hide hH
    clear hH
    have l1 := OL.out k
    by_cases hlt : k < 5
    · have hlt' : (k : Int) < 5 := by omega
      obtain ⟨y1, y2, sn⟩ := AH.out.get 1 rfl
      obtain ⟨a', c', e', _, _, h3⟩ := Own.rd sn.ep
      simp only [Value.slice.injEq] at e'
      obtain ⟨rfl, e5, rfl⟩ := e'
      clear e5
      rcases h3 with h3 | ⟨b', off, hba, hbs, hc⟩
      · have := EL.out
        rw [h3] at this
        simp at this
      subst hba
      have hck := hc k (by rw [EL.out]; exact hlt)
      have S := hide (OS.out k)
      generalize es.getD k 0 = E at hck S
      clear hc sn y1 y2 hbs
      by_cases hE : E = r ∧ 0 ≤ E
      · have e1 : Hid (ot (k + 1) = ot k) := by show _ = _; rw [S.out, if_pos hE]
        obtain ⟨hE1, hE2⟩ := hE
        subst hE1
        have hE3 : ¬ E < 0 := by omega
        have hE4 : decide (E < 0) = false := decide_eq_false hE3
        clear S
        go_wp2
        go_roundw
        case rel =>
          refine ⟨k + 1, ao, co, by omega, by go_num, by rw [e1.out], ?_⟩
          rw [e1.out]
          exact AH.out
        case measure => simp [intOf]; omega
      · have e1 : Hid (ot (k + 1) = ot k ++ [(k : Int)]) := by show _ = _; rw [S.out, if_neg hE]
        have HL4 : Hid ((ot (k + 1)).length = (ot k).length + 1) := by show _ = _; rw [e1.out, List.length_append]; rfl
        clear S
        have A2 := hide (AH.out.step (below_box wr (.cells #[.int .i64 (k : Int)] 3)))
        obtain ⟨zl, zh, tw, t1, t2, t3, put⟩ := A2.out.openTop
        have TW := hide tw
        have PUT := hide put
        clear tw put
        have FIN : Hid (∀ g4 c4 w4, w4.ownsRow zl 3 1 (.slice (some ⟨g4, 0, none⟩) ((ot k).length + 1) c4) ((ot k).length + 1) ((ot k).map (Value.int .i64) ++ [Value.int .i64 (k : Int)]) → (wr.alloc (.cells #[.int .i64 (k : Int)] 3)).grownBy w4 (Value.slice ao (ot k).length co).ownBlock → g4 < w4.heap.size → Hand w w4 [TInts (.slice (some ⟨g4, 0, none⟩) (ot (k + 1)).length c4) (ot (k + 1)), TSn vm (.slice (some ⟨b', off, none⟩) 5 ce) vs M es, TBox w.heap.size #[p, h, b] 26]) := by
          show ∀ g4 c4 w4, _
          intro g4 c4 w4 o4 p4 r4
          refine PUT.out w4 (TInts (.slice (some ⟨g4, 0, none⟩) (ot (k + 1)).length c4) (ot (k + 1))) (TInts.st _ _) ⟨?_, fun z hz => ?_⟩ (Chg.ofGrown p4 fun z hz => ⟨row_low TW.out.1 z hz, Nat.lt_of_lt_of_le (TW.out.2 z hz) t2⟩)
          · show World.ownsRow _ _ _ _ _ (ot (k + 1)).length _
            rw [HL4.out, e1.out, List.map_append]
            exact o4
          · simp [Value.ownBlock] at hz
            omega
        by_cases hE1 : E = r
        · have hE2 : E < 0 := by omega
          subst hE1
          go_wp2_with (at_builtin; refine wpList_append_int1 rfl _ _ rfl zl _ (ot k).length (ot k) k rfl TW.out.1 wr.heap.size rfl (World.cell?_alloc_at _ _ _ _ (by simp)) (by omega) (by omega) ?_)
          intro g4 c4 w4 o4 p4 q4 r4
          have A5 := hide (FIN.out g4 c4 w4 o4 p4 r4)
          clear o4 p4 q4 r4 TW PUT FIN A2 AH
          go_wp2
          go_roundw
          case rel => exact ⟨k + 1, some ⟨g4, 0, none⟩, c4, by omega, by go_num, by rw [HL4.out], A5.out⟩
          case measure => simp [intOf]; omega
        · have hE2 : (E == r) = false := by simpa using hE1
          have hE3 : (E != r) = true := by simpa using hE1
          go_wp2_with (at_builtin; refine wpList_append_int1 rfl _ _ rfl zl _ (ot k).length (ot k) k rfl TW.out.1 wr.heap.size rfl (World.cell?_alloc_at _ _ _ _ (by simp)) (by omega) (by omega) ?_)
          intro g4 c4 w4 o4 p4 q4 r4
          have A5 := hide (FIN.out g4 c4 w4 o4 p4 r4)
          clear o4 p4 q4 r4 TW PUT FIN A2 AH
          go_wp2
          go_roundw
          case rel => exact ⟨k + 1, some ⟨g4, 0, none⟩, c4, by omega, by go_num, by rw [HL4.out], A5.out⟩
          case measure => simp [intOf]; omega
    · obtain rfl : k = 5 := by omega
      by_cases hr : 0 ≤ r
      · have hr' : ¬ r < 0 := by omega
        have eo : oo = ot 5 := by rw [HOO.out, if_pos hr]
        subst eo
        obtain ⟨lo, hi, ⟨oo, ot'⟩, lw, hw, _⟩ := AH.out.open 0 rfl
        obtain ⟨y1, y2, sn⟩ := AH.out.get 1 rfl
        have RM := hide sn.mat.rd
        have RO := hide (Own.rd oo)
        have OO := hide oo
        clear oo ot' sn y1 y2
        go_wp2_with fail
        refine (C3'.out _ _ _ hr RM.out RO.out).mono ?_
        rintro e w5 ⟨v5, rfl, m5, q⟩
        have M5 := hide (m5.wider AH.out.below.size (Nat.le_refl _))
        have O5 := hide (Own.mono (OO.out.below q) lw)
        have A5 := hide (AH.out.step q)
        clear q m5 AH
        go_wp2
        go_ret3
        exact ⟨_, _, rfl, fun _ => M5.out, O5.out, A5.out.below⟩
      · have hr' : r < 0 := by omega
        have er : r = -1 := by have := RG.out; omega
        have eo : oo = [] := by rw [HOO.out, if_neg hr]
        subst eo
        subst er
        go_wp2
        go_ret3
        first | exact ⟨_, _, rfl, World.ownsRow_nil _ _ _ _, AH.out.below⟩ | exact ⟨_, rfl, World.ownsRow_nil _ _ _ _, AH.out.below⟩

set_option maxRecDepth 100000 in
set_option maxHeartbeats 1600000 in
theorem sReadStripe_calls (p h b : Value) (P H : List ByteArray) (B : List Bool) (A least : Int) (ok : Bool) (w : World) (hok : ok = true ↔ ((gkP P H B ∧ ftP P A) ∧ dcOk (rsX P H B least A))) (hp : RdT w p P) (hh : RdT w h H) (hb : RdZ w b B) :
    Calls Tryz.prog 53 #[.agg #[p, h, b], .int .i64 A, .int .i64 least] w fun e w' => ∃ v', e = .returned (.tuple #[.string (dcT ok (rsX P H B least A)), v', .bool ok]) ∧ Own w' w.heap.size v' (rsOth ok (rsX P H B least A)) ∧ Below w.heap.size w w' := by
  have RP := hide hp
  have RH := hide hh
  have RB := hide hb
  have HOK := hide hok
  obtain ⟨g, hg⟩ := gk_bool' P H B
  have HG := hide hg
  have C1 := hide (fun W h1 h2 h3 => sGoodDisk_calls p h b P H B g W hg h1 h2 h3)
  have A0 := hide ((Hand.start w).box #[p, h, b] 26)
  obtain ⟨c0, c1, c2⟩ := (A0.out.atBox 0 rfl).c3
  obtain ⟨ap, cp, rfl, mp, _⟩ := hp.sl
  obtain ⟨ah, ch, rfl, mh, _⟩ := hh.sl
  obtain ⟨ab, cb, rfl, mb, _⟩ := hb.sl
  have FALSE : Hid (¬ ((gkP P H B ∧ ftP P A) ∧ dcOk (rsX P H B least A)) → ok = false) := fun h => by
    cases ok with
    | false => rfl
    | true => exact absurd (HOK.out.1 rfl) h
  clear hp hh hb hok hg mp mh mb
  cases g with
  | false =>
    obtain rfl := FALSE.out (fun h' => by have := HG.out.2 h'.1.1; simp at this)
    show Calls _ _ _ _ fun e w' => ∃ v', e = .returned (.tuple #[.string ⟨#[]⟩, v', .bool false]) ∧ Own w' w.heap.size v' [] ∧ Below w.heap.size w w'
    go_enter Tryz.func53, Tryz.ntmps53
    go_wp2_with fail
    refine (C1.out _ (RP.out.below A0.out.below) (RH.out.below A0.out.below) (RB.out.below A0.out.below)).mono ?_
    rintro e w1 ⟨rfl, q⟩
    have A1 := hide (A0.out.step q)
    clear q A0 c0 c1 c2
    go_wp2
    go_ret3
    exact ⟨_, rfl, World.ownsRow_nil _ _ _ _, A1.out.below⟩
  | true =>
  have GK := hide (HG.out.1 rfl)
  have n24 : P.length ≤ 24 := GK.out.1.2
  obtain ⟨f, hf⟩ : ∃ f : Bool, f = true ↔ ftP P A := by
    by_cases hx : ftP P A
    · exact ⟨true, by simp [hx]⟩
    · exact ⟨false, by simp [hx]⟩
  have C2 := hide (fun W x y z t => l8Fits_calls x y z t P A f W hf n24)
  have HF := hide hf
  clear hf
  cases f with
  | false =>
    obtain rfl := FALSE.out (fun h' => by have := HF.out.2 h'.1.2; simp at this)
    show Calls _ _ _ _ fun e w' => ∃ v', e = .returned (.tuple #[.string ⟨#[]⟩, v', .bool false]) ∧ Own w' w.heap.size v' [] ∧ Below w.heap.size w w'
    go_enter Tryz.func53, Tryz.ntmps53
    go_wp2_with fail
    refine (C1.out _ (RP.out.below A0.out.below) (RH.out.below A0.out.below) (RB.out.below A0.out.below)).mono ?_
    rintro e w1 ⟨rfl, q⟩
    have A1 := hide (A0.out.step q)
    clear q A0 c0 c1 c2
    obtain ⟨c0, c1, c2⟩ := (A1.out.atBox 0 rfl).c3
    go_wp2_with fail
    refine (C2.out _ _ _ _ _).mono ?_
    rintro e w2 ⟨rfl, q⟩
    have A2 := hide (A1.out.step q)
    clear q A1 c0 c1 c2
    go_wp2
    go_ret3
    exact ⟨_, rfl, World.ownsRow_nil _ _ _ _, A2.out.below⟩
  | true =>
  have FT := hide (HF.out.1 rfl)
  obtain ⟨a, rfl⟩ : ∃ a : Nat, A = (a : Int) := ⟨A.toNat, by have := FT.out.1; omega⟩
  have ha5 : a + 5 ≤ P.length := by have := FT.out.2; omega
  have HD : Hid (ok = true ↔ dcOk (rsX P H B least (a : Int))) := by show _ ↔ _; rw [HOK.out]; exact ⟨fun h => h.2, fun h => ⟨⟨GK.out, FT.out⟩, h⟩⟩
  have ex : rsX P H B least (a : Int) = skL P H B least a := by unfold rsX; rw [Int.toNat_natCast]
  rw [ex] at HD
  rw [ex]
  have C3 := hide (fun W h1 h2 h3 => l8Read_calls (.slice ap P.length cp) (.slice ah H.length ch) (.slice ab B.length cb) P H B a least W GK.out ha5 h1 h2 h3)
  obtain ⟨xs, hxs⟩ : ∃ xs, xs = skL P H B least a := ⟨_, rfl⟩
  have xl : xs.length = 5 := by rw [hxs, skL_length]
  have xok : ∀ k, okP (xs.getD k none) := by rw [hxs]; exact skL_ok _ _ _ _ _
  rw [← hxs] at C3 HD ⊢
  have RO : Hid (ok = true → rsOth ok xs = othE (xs.map epo) (rtX xs) 5) := fun e => by unfold rsOth; rw [if_pos e]
  have RN : Hid (ok = false → rsOth ok xs = [] ∧ dcT ok xs = ⟨#[]⟩) := fun e => ⟨by unfold rsOth; rw [e]; rfl, by unfold dcT; rw [e]; rfl⟩
  clear HOK HF FT FALSE HG ex hxs
  by_cases hr : 0 ≤ rtX xs
  case neg =>
    have okf : ok = false := by
      cases ok with
      | false => rfl
      | true => exact absurd (HD.out.1 rfl).1 hr
    subst okf
    obtain ⟨e1, e2⟩ := RN.out rfl
    rw [e1, e2]
    have hr' : rtX xs < 0 := by omega
    generalize rtX xs = r at *
    generalize (if 0 ≤ r then othE (xs.map epo) r 5 else []) = oo at *
    clear e1 e2 RO RN HD xl xok
    go_enter Tryz.func53, Tryz.ntmps53
    go_wp2_with fail
    refine (C1.out _ (RP.out.below A0.out.below) (RH.out.below A0.out.below) (RB.out.below A0.out.below)).mono ?_
    rintro e w1 ⟨rfl, q⟩
    have A1 := hide (A0.out.step q)
    clear q A0 c0 c1 c2
    obtain ⟨c0, c1, c2⟩ := (A1.out.atBox 0 rfl).c3
    go_wp2_with fail
    refine (C2.out _ _ _ _ _).mono ?_
    rintro e w2 ⟨rfl, q⟩
    have A2 := hide (A1.out.step q)
    clear q A1 c0 c1 c2
    obtain ⟨c0, c1, c2⟩ := (A2.out.atBox 0 rfl).c3
    go_wp2_with fail
    refine (C3.out _ (RP.out.below A2.out.below) (RH.out.below A2.out.below) (RB.out.below A2.out.below)).mono ?_
    rintro e w3 ⟨vm, vo, rfl, m3, o3, q⟩
    have A3 := hide (A2.out.step q)
    clear q A2 c0 c1 c2 m3 o3
    go_wp2
    go_ret3
    exact ⟨_, rfl, World.ownsRow_nil _ _ _ _, A3.out.below⟩
  have hy : ok = true ↔ tfP (dcM xs) := by rw [HD.out]; exact ⟨fun h => h.2, fun h => ⟨hr, h⟩⟩
  have C4 := hide (fun W v hv => l8From_calls v (dcM xs) ok W hy hv (tf_r16 (dc_tf xl xok hr)).1)
  have er : (if ok = true then tfT (dcM xs) else ⟨#[]⟩) = dcT ok xs := rfl
  rw [er] at C4
  rw [if_pos hr] at C3
  have hr' : ¬ rtX xs < 0 := by omega
  generalize rsOth ok xs = oo at *
  generalize dcT ok xs = tt at *
  generalize othE (xs.map epo) (rtX xs) 5 = ot at *
  generalize rtX xs = r at *
  generalize dcM xs = dm at *
  clear HD xl xok er hy
  go_enter Tryz.func53, Tryz.ntmps53
  go_wp2_with fail
  refine (C1.out _ (RP.out.below A0.out.below) (RH.out.below A0.out.below) (RB.out.below A0.out.below)).mono ?_
  rintro e w1 ⟨rfl, q⟩
  have A1 := hide (A0.out.step q)
  clear q A0 c0 c1 c2
  obtain ⟨c0, c1, c2⟩ := (A1.out.atBox 0 rfl).c3
  go_wp2_with fail
  refine (C2.out _ _ _ _ _).mono ?_
  rintro e w2 ⟨rfl, q⟩
  have A2 := hide (A1.out.step q)
  clear q A1 c0 c1 c2
  obtain ⟨c0, c1, c2⟩ := (A2.out.atBox 0 rfl).c3
  go_wp2_with fail
  refine (C3.out _ (RP.out.below A2.out.below) (RH.out.below A2.out.below) (RB.out.below A2.out.below)).mono ?_
  rintro e w3 ⟨vm, vo, rfl, m3, o3, q⟩
  have RM := hide (m3 hr).rd
  have OO := hide (Own.mono o3 A2.out.below.size)
  have A3 := hide (A2.out.step q)
  clear q A2 c0 c1 c2 m3 o3
  go_wp2_with fail
  refine (C4.out _ _ RM.out).mono ?_
  rintro e w4 ⟨rfl, q⟩
  have A4 := hide (A3.out.step q)
  have O4 := hide (OO.out.below q)
  clear q A3 OO RM
  cases ok with
  | true =>
    have e1 := RO.out rfl
    subst e1
    go_wp2
    go_ret3
    exact ⟨_, rfl, O4.out, A4.out.below⟩
  | false =>
    obtain ⟨e1, e2⟩ := RN.out rfl
    subst e1
    subst e2
    go_wp2
    go_ret3
    exact ⟨_, rfl, World.ownsRow_nil _ _ _ _, A4.out.below⟩
end Go.Proofs.YtbgadbokejaomaaGreatDoor

namespace Go.Proofs.YtbgadbokejaomaaGreatDoor
open Go.RowKit
set_option linter.unusedVariables false
set_option linter.unusedSimpArgs false

theorem wfS {A : Int} (h : -100 ≤ A ∧ A ≤ 100) : (Lit.int .i64 A).wf = true := by
  simp [Lit.wf, IntKind.min, IntKind.max, IntKind.signed, IntKind.bits]
  omega
/-- There is such a stripe. -/
def thS (P H : List ByteArray) (B : List Bool) (es : List Int) (cu me K : Int) : Prop := scOk P H B es cu me ∧ 0 ≤ K ∧ K < (es.length : Int)
/-- A stripe's own Epoch, its sectors as they are found. -/
def epK (es : List Int) (K : Int) : Int := es.getD K.toNat 0
def xsK (P H : List ByteArray) (B : List Bool) (es : List Int) (K : Int) : List Pc := rsX P H B (epK es K) (5 * K)
def txQ (P H : List ByteArray) (B : List Bool) (es : List Int) (cu me K : Int) : Prop := thS P H B es cu me K ∧ dcOk (xsK P H B es K)
theorem thS_fits {P H : List ByteArray} {B : List Bool} {es : List Int} {cu me K : Int} (h : thS P H B es cu me K) : ∃ k : Nat, K = (k : Int) ∧ k < es.length ∧ k < 4 ∧ gkP P H B ∧ ftP P ((5 * k : Nat) : Int) ∧ (0 ≤ es.getD k 0 ∧ es.getD k 0 ≤ 60000) := by
  obtain ⟨⟨n14, nep, n5, gk, _⟩, h0, h1⟩ := h
  refine ⟨K.toNat, by omega, by omega, by omega, gk, ?_, nep _ (by omega)⟩
  unfold ftP
  omega
theorem xsK_nat (P H : List ByteArray) (B : List Bool) (es : List Int) (k : Nat) : xsK P H B es (k : Int) = rsX P H B (es.getD k 0) ((5 * k : Nat) : Int) := by
  unfold xsK epK
  rw [Int.toNat_natCast]
  rfl

set_option maxRecDepth 100000 in
theorem firstSector_calls (k : Nat) (w : World) (hk : k ≤ 4) :
    Calls Tryz.prog 75 #[.int .i64 (k : Int)] w fun x w' => x = .returned (.int .i64 ((5 * k : Nat) : Int)) ∧ w = w' := by
  have h1 : wrap64 ((k : Int) * 5) = ((5 * k : Nat) : Int) := by rw [wrapS _ (by omega) (by omega)]; omega
  have h2 : IntKind.i64.wrap ((k : Int) * 5) = ((5 * k : Nat) : Int) := by rw [wrapS2 _ (by omega) (by omega)]; omega
  go_enter Tryz.func75, Tryz.ntmps75
  go_wp2
  go_ret
  first | exact ⟨rfl, rfl⟩ | (refine ⟨?_, rfl⟩; rw [h2]) | (refine ⟨?_, rfl⟩; rw [h1])

set_option maxRecDepth 100000 in
set_option maxHeartbeats 1600000 in
theorem hasStripe_calls (p h b e : Value) (cu me : Int) (P H : List ByteArray) (B : List Bool) (es : List Int) (K : Int) (t : Bool) (w : World) (d : RdSc w p h b e P H B es) (ht : t = true ↔ thS P H B es cu me K) :
    Calls Tryz.prog 74 #[.agg (scC p h b e cu me), .int .i64 K] w fun x w' => x = .returned (.bool t) ∧ Below w.heap.size w w' := by
  obtain ⟨ap, cp, ah, ch, ab, cb, ae, ce, rfl, rfl, rfl, rfl⟩ := d.sl
  have A0 := hide ((Hand.start w).box (scC (.slice ap P.length cp) (.slice ah H.length ch) (.slice ab B.length cb) (.slice ae es.length ce) cu me) 29)
  have D0 := hide (d.below A0.out.below)
  obtain ⟨g, hg⟩ := bol_exS (scOk P H B es cu me)
  have GD := hide (fun W q => goodScrub_calls (.slice ap P.length cp) (.slice ah H.length ch) (.slice ab B.length cb) (.slice ae es.length ce) cu me P H B es g W q hg)
  have HT := hide ht
  have HG := hide hg
  clear d ht hg
  obtain ⟨x0, x1, x2, x3, x4, x5⟩ := (A0.out.atBox 0 rfl).c6
  go_enter Tryz.func74, Tryz.ntmps74
  go_wp2_with fail
  refine (GD.out _ D0.out).mono ?_
  rintro x w1 ⟨rfl, q⟩
  have A1 := hide (A0.out.step q)
  clear q A0 D0 GD x0 x1 x2 x3 x4 x5
  obtain ⟨x0, x1, x2, x3, x4, x5⟩ := (A1.out.atBox 0 rfl).c6
  cases g with
  | false =>
    obtain rfl : t = false := by cases t with | false => rfl | true => have := HG.out.2 (HT.out.1 rfl).1; simp at this
    go_wp2
    go_ret
    exact ⟨by first | rfl | simp, A1.out.below⟩
  | true =>
  have EQ : Hid (t = true ↔ (0 ≤ K ∧ K < (es.length : Int))) := ⟨fun h => (HT.out.1 h).2, fun h => HT.out.2 ⟨HG.out.1 rfl, h⟩⟩
  clear HG HT
  go_wp2
  all_goals
    go_ret
    refine ⟨ret_bool ?_, A1.out.below⟩
    rw [Bool.eq_iff_iff, EQ.out]
    simp
    try omega

set_option maxRecDepth 100000 in
set_option maxHeartbeats 3200000 in
theorem textAt_calls (p h b e : Value) (cu me : Int) (P H : List ByteArray) (B : List Bool) (es : List Int) (K : Int) (ok : Bool) (w : World) (hT : Gf.Tab w) (d : RdSc w p h b e P H B es) (hok : ok = true ↔ txQ P H B es cu me K) :
    Calls Tryz.prog 34 #[.agg (scC p h b e cu me), .int .i64 K] w fun x w' => x = .returned (.tuple #[.string (dcT ok (xsK P H B es K)), .bool ok]) ∧ Below w.heap.size w w' := by
  obtain ⟨ap, cp, ah, ch, ab, cb, ae, ce, rfl, rfl, rfl, rfl⟩ := d.sl
  have TT := hide hT
  have D := hide d
  have A0 := hide ((Hand.start w).box (scC (.slice ap P.length cp) (.slice ah H.length ch) (.slice ab B.length cb) (.slice ae es.length ce) cu me) 29)
  have D0 := hide (d.below A0.out.below)
  obtain ⟨t, ht⟩ := bol_exS (thS P H B es cu me K)
  have HS := hide (fun W q => hasStripe_calls (.slice ap P.length cp) (.slice ah H.length ch) (.slice ab B.length cb) (.slice ae es.length ce) cu me P H B es K t W q ht)
  have HOK := hide hok
  have HT := hide ht
  clear d hok ht hT
  obtain ⟨x0, x1, x2, x3, x4, x5⟩ := (A0.out.atBox 0 rfl).c6
  cases t with
  | false =>
    obtain rfl : ok = false := by cases ok with | false => rfl | true => have := HT.out.2 (HOK.out.1 rfl).1; simp at this
    show Calls _ _ _ _ fun x w' => x = .returned (.tuple #[.string ⟨#[]⟩, .bool false]) ∧ _
    clear HOK HT
    go_enter Tryz.func34, Tryz.ntmps34
    go_wp2_with fail
    refine (HS.out _ D0.out).mono ?_
    rintro x w1 ⟨rfl, q⟩
    have A1 := hide (A0.out.step q)
    clear q A0 D0 HS x0 x1 x2 x3 x4 x5
    go_wp2
    go_ret2
    exact ⟨rfl, A1.out.below⟩
  | true =>
    have TH := hide (HT.out.1 rfl)
    obtain ⟨k, hK, hk, k4, gk, ft, _⟩ := thS_fits TH.out
    subst hK
    have hk' : (k : Int) < (es.length : Int) := by omega
    obtain ⟨eb, eo, rfl, hce⟩ := D.out.re.cellS k hk
    have RS := hide (fun W q0 q1 q2 q3 => readStripe_calls (.slice ap P.length cp) (.slice ah H.length ch) (.slice ab B.length cb) P H B ((5 * k : Nat) : Int) (es.getD k 0) ok W q0 (hok := ⟨fun h => ⟨⟨gk, ft⟩, by have := (HOK.out.1 h).2; rw [xsK_nat] at this; exact this⟩, fun h => HOK.out.2 ⟨TH.out, by rw [xsK_nat]; exact h.2⟩⟩) (wfS (by omega)) q1 q2 q3)
    rw [xsK_nat]
    generalize dcT ok (rsX P H B (es.getD k 0) ((5 * k : Nat) : Int)) = tx at RS ⊢
    generalize rsOth ok (rsX P H B (es.getD k 0) ((5 * k : Nat) : Int)) = oth at RS
    have EC : Hid (∀ W', Below w.heap.size w W' → W'.cell? ⟨eb, eo + k, none⟩ = some (.int .i64 (es.getD k 0))) := fun W' hb => (hb.cell (World.block_lt_of_cell? _ _ hce)).trans hce
    clear hce
    generalize es.getD k 0 = L at RS EC
    have FS := hide (fun W => firstSector_calls k W (by omega))
    clear HOK HT gk ft
    go_enter Tryz.func34, Tryz.ntmps34
    go_wp2_with fail
    refine (HS.out _ D0.out).mono ?_
    rintro x w1 ⟨rfl, q⟩
    have A1 := hide (A0.out.step q)
    clear q A0 D0 HS x0 x1 x2 x3 x4 x5
    obtain ⟨x0, x1, x2, x3, x4, x5⟩ := (A1.out.atBox 0 rfl).c6
    go_upto_region 3 with fail
    clear x0 x1 x2 x3 x4 x5
    have F : Hid (∀ w', Below w1.heap.size w1 w' → (w'.cell? ⟨w.heap.size, 0, none⟩ = some (.slice ap P.length cp) ∧ w'.cell? ⟨w.heap.size, 1, none⟩ = some (.slice ah H.length ch) ∧ w'.cell? ⟨w.heap.size, 2, none⟩ = some (.slice ab B.length cb) ∧ w'.cell? ⟨w.heap.size, 3, none⟩ = some (.slice (some ⟨eb, eo, none⟩) es.length ce) ∧ w'.cell? ⟨w.heap.size, 4, none⟩ = some (.int .i64 cu) ∧ w'.cell? ⟨w.heap.size, 5, none⟩ = some (.int .i64 me)) ∧ w'.cell? ⟨eb, eo + k, none⟩ = some (.int .i64 L)) := fun w' hb => ⟨((A1.out.step hb).atBox 0 rfl).c6, EC.out _ (A1.out.step hb).below⟩
    go_region_held3 (fun w' => (w'.cell? ⟨w.heap.size, 0, none⟩ = some (.slice ap P.length cp) ∧ w'.cell? ⟨w.heap.size, 1, none⟩ = some (.slice ah H.length ch) ∧ w'.cell? ⟨w.heap.size, 2, none⟩ = some (.slice ab B.length cb) ∧ w'.cell? ⟨w.heap.size, 3, none⟩ = some (.slice (some ⟨eb, eo, none⟩) es.length ce) ∧ w'.cell? ⟨w.heap.size, 4, none⟩ = some (.int .i64 cu) ∧ w'.cell? ⟨w.heap.size, 5, none⟩ = some (.int .i64 me)) ∧ w'.cell? ⟨eb, eo + k, none⟩ = some (.int .i64 L)) (first | exact F.out _ (Below.refl _ _).drew | exact F.out _ B2.out)
      ((first | (go_at_call 75; refine (FS.out _).mono ?_; rintro x' wf ⟨rfl, rfl⟩) | (go_at_call 54; refine (RS.out _ (Gf.Tab.below TT.out (A1.out.step (Below.refl _ _).drew).below) (D.out.below (A1.out.step (Below.refl _ _).drew).below).rp (D.out.below (A1.out.step (Below.refl _ _).drew).below).rh (D.out.below (A1.out.step (Below.refl _ _).drew).below).rb).mono ?_; rintro x' w3 ⟨v3, rfl, o3, b3⟩; have B2 := hide ((Below.refl w1.heap.size w1).drew.trans b3); clear b3 o3)))
    go_wp2
    go_ret2
    exact ⟨rfl, (A1.out.step B2.out).below⟩

set_option maxRecDepth 100000 in
set_option maxHeartbeats 3200000 in
theorem l16Text_calls (p h b e : Value) (cu me : Int) (P H : List ByteArray) (B : List Bool) (es : List Int) (k : Nat) (ok : Bool) (w : World) (d : RdSc w p h b e P H B es) (th : thS P H B es cu me (k : Int)) (hok : ok = true ↔ dcOk (xsK P H B es (k : Int))) :
    Calls Tryz.prog 72 #[.agg (scC p h b e cu me), .int .i64 (k : Int)] w fun x w' => x = .returned (.tuple #[.string (dcT ok (xsK P H B es (k : Int))), .bool ok]) ∧ Below w.heap.size w w' := by
  obtain ⟨ap, cp, ah, ch, ab, cb, ae, ce, rfl, rfl, rfl, rfl⟩ := d.sl
  have D := hide d
  have A0 := hide ((Hand.start w).box (scC (.slice ap P.length cp) (.slice ah H.length ch) (.slice ab B.length cb) (.slice ae es.length ce) cu me) 29)
  obtain ⟨k0, hK, hk, k4, gk, ft, _⟩ := thS_fits th
  obtain rfl : k = k0 := by omega
  have hk' : (k : Int) < (es.length : Int) := by omega
  obtain ⟨eb, eo, rfl, hce⟩ := D.out.re.cellS k hk
  rw [xsK_nat] at hok ⊢
  have RS := hide (fun W q1 q2 q3 => sReadStripe_calls (.slice ap P.length cp) (.slice ah H.length ch) (.slice ab B.length cb) P H B ((5 * k : Nat) : Int) (es.getD k 0) ok W ⟨fun h => ⟨⟨gk, ft⟩, hok.1 h⟩, fun h => hok.2 h.2⟩ q1 q2 q3)
  generalize dcT ok (rsX P H B (es.getD k 0) ((5 * k : Nat) : Int)) = tx at RS ⊢
  generalize rsOth ok (rsX P H B (es.getD k 0) ((5 * k : Nat) : Int)) = oth at RS
  have EC : Hid (∀ W', Below w.heap.size w W' → W'.cell? ⟨eb, eo + k, none⟩ = some (.int .i64 (es.getD k 0))) := fun W' hb => (hb.cell (World.block_lt_of_cell? _ _ hce)).trans hce
  have E5 : Hid (IntKind.i64.wrap (5 * (k : Int)) = ((5 * k : Nat) : Int)) := by show _ = _; rw [wrapS2 _ (by omega) (by omega)]; omega
  clear hce hok gk ft th d hK
  generalize es.getD k 0 = L at RS EC
  obtain ⟨x0, x1, x2, x3, x4, x5⟩ := (A0.out.atBox 0 rfl).c6
  obtain ⟨w1, hw1⟩ : ∃ u, u = w.alloc (.cells (scC (.slice ap P.length cp) (.slice ah H.length ch) (.slice ab B.length cb) (.slice (some ⟨eb, eo, none⟩) es.length ce) cu me) 29) := ⟨_, rfl⟩
  go_enter Tryz.func72, Tryz.ntmps72
  go_upto_region 1 with fail
  clear x0 x1 x2 x3 x4 x5
  rw [← hw1] at A0 ⊢
  clear hw1
  have F : Hid (∀ w', Below w1.heap.size w1 w' → (w'.cell? ⟨w.heap.size, 0, none⟩ = some (.slice ap P.length cp) ∧ w'.cell? ⟨w.heap.size, 1, none⟩ = some (.slice ah H.length ch) ∧ w'.cell? ⟨w.heap.size, 2, none⟩ = some (.slice ab B.length cb) ∧ w'.cell? ⟨w.heap.size, 3, none⟩ = some (.slice (some ⟨eb, eo, none⟩) es.length ce) ∧ w'.cell? ⟨w.heap.size, 4, none⟩ = some (.int .i64 cu) ∧ w'.cell? ⟨w.heap.size, 5, none⟩ = some (.int .i64 me)) ∧ w'.cell? ⟨eb, eo + k, none⟩ = some (.int .i64 L)) := fun w' hb => ⟨((A0.out.step hb).atBox 0 rfl).c6, EC.out _ (A0.out.step hb).below⟩
  go_region_held3 (fun w' => (w'.cell? ⟨w.heap.size, 0, none⟩ = some (.slice ap P.length cp) ∧ w'.cell? ⟨w.heap.size, 1, none⟩ = some (.slice ah H.length ch) ∧ w'.cell? ⟨w.heap.size, 2, none⟩ = some (.slice ab B.length cb) ∧ w'.cell? ⟨w.heap.size, 3, none⟩ = some (.slice (some ⟨eb, eo, none⟩) es.length ce) ∧ w'.cell? ⟨w.heap.size, 4, none⟩ = some (.int .i64 cu) ∧ w'.cell? ⟨w.heap.size, 5, none⟩ = some (.int .i64 me)) ∧ w'.cell? ⟨eb, eo + k, none⟩ = some (.int .i64 L)) (first | exact F.out _ (Below.refl _ _).drew | exact F.out _ B2.out)
    ((first | (go_at_call 53; rw [E5.out]; refine (RS.out _  (D.out.below (A0.out.step (Below.refl _ _).drew).below).rp (D.out.below (A0.out.step (Below.refl _ _).drew).below).rh (D.out.below (A0.out.step (Below.refl _ _).drew).below).rb).mono ?_; rintro x' w3 ⟨v3, rfl, o3, b3⟩; have B2 := hide ((Below.refl w1.heap.size w1).drew.trans b3); clear b3 o3)))
  go_wp2
  go_ret2
  exact ⟨rfl, (A0.out.step B2.out).below⟩

end Go.Proofs.YtbgadbokejaomaaGreatDoor

/-
  HealthOf: the program's and its model's, at every disk and numbers. No condition but that the numbers are ones of 64 bits. A health compared, marked, and whether the marks are held: the laws' own functions, call by call. Each contract says what it asks. The law that holds the program's HealthOf against its model's: at every disk and numbers the call returns true, and nothing that was there is written. No condition.
-/
import Derived.Test.YtbgadbokejaomaaHealthOfB14
namespace Go.Proofs.Ytbgadbokejaomaa
open Go.RowKit
set_option linter.unusedVariables false

/-- The Epochs of the five sectors. -/
def esS (P H : List ByteArray) (B : List Bool) (least A : Int) : List Int := (skL P H B least A.toNat).map epo
theorem esS_length (P H : List ByteArray) (B : List Bool) (least A : Int) : (esS P H B least A).length = 5 := by unfold esS; rw [List.length_map, skL_length]
def hlX (f : Bool) (P H : List ByteArray) (B : List Bool) (least A : Int) : List Int := if f = true then losE (esS P H B least A) 5 else []
def hlY (f : Bool) (P H : List ByteArray) (B : List Bool) (least A : Int) : List Int := if f = true then staE (esS P H B least A) (rtE (esS P H B least A) 5) 5 else []
def hlW (f : Bool) (P H : List ByteArray) (B : List Bool) (least A : Int) : Bool := f && decide ((hlX f P H B least A).length = 0 ∧ (hlY f P H B least A).length = 0)
theorem hlX_le (f : Bool) (P H : List ByteArray) (B : List Bool) (least A : Int) : (hlX f P H B least A).length ≤ 5 := by
  unfold hlX
  split
  · exact pkE_le _ _ _
  · exact Nat.zero_le _
theorem hlY_le (f : Bool) (P H : List ByteArray) (B : List Bool) (least A : Int) : (hlY f P H B least A).length ≤ 5 := by
  unfold hlY
  split
  · exact pkE_le _ _ _
  · exact Nat.zero_le _
theorem Two.mono {w : World} {lo lo' hi hi' : Nat} {u v : Value} {X Y : List Int} (h : Two w lo hi u v X Y) (h1 : lo' ≤ lo) (h2 : hi ≤ hi') : Two w lo' hi' u v X Y :=
  ⟨ownsRow_mono h.a h1, ownsRow_mono h.b h1, fun k hk => Nat.lt_of_lt_of_le (h.ta k hk) h2, fun k hk => Nat.lt_of_lt_of_le (h.tb k hk) h2, h.ne⟩
theorem Two.below {w w' : World} {lo hi : Nat} {u v : Value} {X Y : List Int} (h : Two w lo hi u v X Y) (hb : Below w.heap.size w w') : Two w' lo hi u v X Y := ⟨ownsRow_below h.a hb, ownsRow_below h.b hb, h.ta, h.tb, h.ne⟩

set_option maxRecDepth 100000 in
set_option maxHeartbeats 3200000 in
theorem healthOf_calls (p h b : Value) (P H : List ByteArray) (B : List Bool) (A least : Int) (f : Bool) (w : World) (hf : f = true ↔ (gkP P H B ∧ ftP P A)) (hwf : (Lit.int .i64 A).wf = true) (hp : RdT w p P) (hh : RdT w h H) (hb : RdZ w b B) :
    Calls Try.prog 7 #[.agg #[p, h, b], .int .i64 A, .int .i64 least] w fun e w' => ∃ vl vs, e = .returned (.tuple #[.agg #[vl, vs, .bool (hlW f P H B least A)], .bool f]) ∧ Two w' w.heap.size w'.heap.size vl vs (hlX f P H B least A) (hlY f P H B least A) ∧ Below w.heap.size w w' := by
  have RP := hide hp
  have RH := hide hh
  have RB := hide hb
  have HF := hide hf
  have A0 : Hid (Hand w ((w.alloc (.cells #[p, h, b] 32)).alloc (.cells #[.slice none 0 0, .slice none 0 0, .bool false] 29)) [TBox (w.heap.size + 1) #[.slice none 0 0, .slice none 0 0, .bool false] 29, TBox w.heap.size #[p, h, b] 32]) := by
    show Hand _ _ _
    have := ((Hand.start w).box #[p, h, b] 32).box #[.slice none 0 0, .slice none 0 0, .bool false] 29
    simpa using this
  have C1 := hide (fun W h1 h2 h3 => liesOn_calls p h b P H B A f W hf hwf h1 h2 h3)
  clear hp hh hb hf hwf
  cases f with
  | false =>
    obtain ⟨c0, c1, c2⟩ := (A0.out.atBox 1 rfl).c3
    show Calls _ _ _ _ fun e w' => ∃ vl vs, e = .returned (.tuple #[.agg #[vl, vs, .bool false], .bool false]) ∧ Two w' w.heap.size w'.heap.size vl vs [] [] ∧ Below w.heap.size w w'
    go_enter Try.func7, Try.ntmps7
    go_wp2_with fail
    refine (C1.out _ (RP.out.below A0.out.below) (RH.out.below A0.out.below) (RB.out.below A0.out.below)).mono ?_
    rintro e w1 ⟨rfl, q⟩
    have A1 := hide (A0.out.step q)
    clear q A0 c0 c1 c2
    obtain ⟨d0, d1, d2⟩ := (A1.out.atBox 0 rfl).c3
    have g0 := (A1.out.atBox 0 rfl).frozen 0
    have g1 := (A1.out.atBox 0 rfl).frozen 1
    have g2 := (A1.out.atBox 0 rfl).frozen 2
    have A2 := hide (A1.out.put3 0 rfl (.slice none 0 0) (.slice none 0 0) (.bool false))
    go_wp2
    exact bodyPost_ret (res_hl2 rfl _ _ (w.heap.size + 1) _ _ _ (0, 0) rfl (A2.out.atBox 0 rfl)) rfl ⟨_, _, rfl, Two.nil _ _ _, A2.out.below⟩
  | true =>
    have GK := hide (HF.out.1 rfl).1
    have FT := hide (HF.out.1 rfl).2
    obtain ⟨a, rfl⟩ : ∃ a : Nat, A = (a : Int) := ⟨A.toNat, by have := FT.out.1; omega⟩
    have ha5 : a + 5 ≤ P.length := by have := FT.out.2; omega
    have C2 := hide (fun W h1 h2 h3 => findStripe_calls p h b P H B a least W GK.out ha5 h1 h2 h3)
    have C3 := hide (fun W v hv => healthIn_calls v (skL P H B least a) (rtE ((skL P H B least a).map epo) 5) W hv (skL_ok _ _ _ _ _) (by rw [skL_length]; omega))
    have e1 : hlX true P H B least (a : Int) = losE ((skL P H B least a).map epo) 5 := by unfold hlX esS; rw [if_pos rfl, Int.toNat_natCast]
    have e2 : hlY true P H B least (a : Int) = staE ((skL P H B least a).map epo) (rtE ((skL P H B least a).map epo) 5) 5 := by unfold hlY esS; rw [if_pos rfl, Int.toNat_natCast]
    have e3 : hlW true P H B least (a : Int) = decide ((losE ((skL P H B least a).map epo) 5).length = 0 ∧ (staE ((skL P H B least a).map epo) (rtE ((skL P H B least a).map epo) 5) 5).length = 0) := by unfold hlW; rw [Bool.true_and, e1, e2]
    rw [e3, e1, e2]
    rw [skL_length] at C3
    clear e1 e2 e3 HF FT
    generalize rtE ((skL P H B least a).map epo) 5 = rt at C2 C3
    generalize losE ((skL P H B least a).map epo) 5 = X at C3
    generalize staE ((skL P H B least a).map epo) rt 5 = Y at C3
    generalize decide (X.length = 0 ∧ Y.length = 0) = ww at C3
    generalize skL P H B least a = xs at C2 C3
    obtain ⟨c0, c1, c2⟩ := (A0.out.atBox 1 rfl).c3
    go_enter Try.func7, Try.ntmps7
    go_wp2_with fail
    refine (C1.out _ (RP.out.below A0.out.below) (RH.out.below A0.out.below) (RB.out.below A0.out.below)).mono ?_
    rintro e w1 ⟨rfl, q⟩
    have A1 := hide (A0.out.step q)
    clear q A0 c0 c1 c2
    obtain ⟨c0, c1, c2⟩ := (A1.out.atBox 1 rfl).c3
    go_wp2_with fail
    refine (C2.out _ (RP.out.below A1.out.below) (RH.out.below A1.out.below) (RB.out.below A1.out.below)).mono ?_
    rintro e w2 ⟨v, rfl, o, q⟩
    have A2 := hide (A1.out.step q)
    have RV := hide (OwnP.rd o)
    clear q A1 c0 c1 c2 o
    go_wp2_with fail
    refine (C3.out _ _ RV.out).mono ?_
    rintro e w3 ⟨vl, vs, rfl, tw, q⟩
    have A3 := hide (A2.out.add q (TTwo.st _ _ _ _) tw)
    clear q A2 tw RV
    obtain ⟨d0, d1, d2⟩ := (A3.out.atBox 1 rfl).c3
    have g0 := (A3.out.atBox 1 rfl).frozen 0
    have g1 := (A3.out.atBox 1 rfl).frozen 1
    have g2 := (A3.out.atBox 1 rfl).frozen 2
    obtain ⟨zl, zh, tw⟩ := A3.out.get 0 rfl
    obtain ⟨al, cl, hl1⟩ := row_slice tw.a
    obtain ⟨as', cs', hl2⟩ := row_slice tw.b
    subst hl1
    subst hl2
    clear tw zl zh
    have A4 := hide (A3.out.put3 1 rfl (.slice al X.length cl) (.slice as' Y.length cs') (.bool ww))
    go_wp2
    obtain ⟨z1, z2, tt, z3, z4, _⟩ := A4.out.open 0 rfl
    exact bodyPost_ret (res_hl2 rfl _ _ (w.heap.size + 1) _ _ _ (0, 0) rfl (A4.out.atBox 1 rfl)) rfl ⟨_, _, rfl, Two.mono tt z3 z4, A4.out.below⟩

set_option maxRecDepth 100000 in
set_option maxHeartbeats 3200000 in
theorem sHealthOf_calls (p h b : Value) (P H : List ByteArray) (B : List Bool) (A least : Int) (f : Bool) (w : World) (hf : f = true ↔ (gkP P H B ∧ ftP P A)) (hwf : (Lit.int .i64 A).wf = true) (hp : RdT w p P) (hh : RdT w h H) (hb : RdZ w b B) :
    Calls Try.prog 5 #[.agg #[p, h, b], .int .i64 A, .int .i64 least] w fun e w' => ∃ vl vs, e = .returned (.tuple #[.agg #[vl, vs, .bool (hlW f P H B least A)], .bool f]) ∧ Two w' w.heap.size w'.heap.size vl vs (hlX f P H B least A) (hlY f P H B least A) ∧ Below w.heap.size w w' := by
  have RP := hide hp
  have RH := hide hh
  have RB := hide hb
  have HF := hide hf
  have A0 : Hid (Hand w ((w.alloc (.cells #[p, h, b] 32)).alloc (.cells #[.slice none 0 0, .slice none 0 0, .bool false] 29)) [TBox (w.heap.size + 1) #[.slice none 0 0, .slice none 0 0, .bool false] 29, TBox w.heap.size #[p, h, b] 32]) := by
    show Hand _ _ _
    have := ((Hand.start w).box #[p, h, b] 32).box #[.slice none 0 0, .slice none 0 0, .bool false] 29
    simpa using this
  obtain ⟨g, hg⟩ := gk_bool' P H B
  have HG := hide hg
  have C1 := hide (fun W h1 h2 h3 => sGoodDisk_calls p h b P H B g W hg h1 h2 h3)
  obtain ⟨ap, cp, rfl, mp, _⟩ := hp.sl
  obtain ⟨ah, ch, rfl, mh, _⟩ := hh.sl
  obtain ⟨ab, cb, rfl, mb, _⟩ := hb.sl
  clear hp hh hb hf hg mp mh mb
  cases g with
  | false =>
    have ff : f = false := by
      cases f with
      | false => rfl
      | true => have := HG.out.2 (HF.out.1 rfl).1; simp at this
    subst ff
    obtain ⟨c0, c1, c2⟩ := (A0.out.atBox 1 rfl).c3
    show Calls _ _ _ _ fun e w' => ∃ vl vs, e = .returned (.tuple #[.agg #[vl, vs, .bool false], .bool false]) ∧ Two w' w.heap.size w'.heap.size vl vs [] [] ∧ Below w.heap.size w w'
    go_enter Try.func5, Try.ntmps5
    go_wp2_with fail
    refine (C1.out _ (RP.out.below A0.out.below) (RH.out.below A0.out.below) (RB.out.below A0.out.below)).mono ?_
    rintro e w1 ⟨rfl, q⟩
    have A1 := hide (A0.out.step q)
    clear q A0 c0 c1 c2
    obtain ⟨d0, d1, d2⟩ := (A1.out.atBox 0 rfl).c3
    have g0 := (A1.out.atBox 0 rfl).frozen 0
    have g1 := (A1.out.atBox 0 rfl).frozen 1
    have g2 := (A1.out.atBox 0 rfl).frozen 2
    have A2 := hide (A1.out.put3 0 rfl (.slice none 0 0) (.slice none 0 0) (.bool false))
    go_wp2
    exact bodyPost_ret (res_hl2 rfl _ _ (w.heap.size + 1) _ _ _ (0, 0) rfl (A2.out.atBox 0 rfl)) rfl ⟨_, _, rfl, Two.nil _ _ _, A2.out.below⟩
  | true =>
  have GK := hide (HG.out.1 rfl)
  have n24 : P.length ≤ 24 := GK.out.1.2
  have C2 := hide (fun W x y z t => l8Fits_calls x y z t P A f W ⟨fun h => (HF.out.1 h).2, fun h => HF.out.2 ⟨GK.out, h⟩⟩ n24)
  cases f with
  | false =>
    obtain ⟨c0, c1, c2⟩ := (A0.out.atBox 1 rfl).c3
    show Calls _ _ _ _ fun e w' => ∃ vl vs, e = .returned (.tuple #[.agg #[vl, vs, .bool false], .bool false]) ∧ Two w' w.heap.size w'.heap.size vl vs [] [] ∧ Below w.heap.size w w'
    clear HF HG
    go_enter Try.func5, Try.ntmps5
    go_wp2_with fail
    refine (C1.out _ (RP.out.below A0.out.below) (RH.out.below A0.out.below) (RB.out.below A0.out.below)).mono ?_
    rintro e w1 ⟨rfl, q⟩
    have A1 := hide (A0.out.step q)
    clear q A0 c0 c1 c2
    obtain ⟨c0, c1, c2⟩ := (A1.out.atBox 1 rfl).c3
    go_wp2_with fail
    refine (C2.out _ _ _ _ _).mono ?_
    rintro e w2 ⟨rfl, q⟩
    have A2 := hide (A1.out.step q)
    clear q A1 c0 c1 c2
    obtain ⟨d0, d1, d2⟩ := (A2.out.atBox 0 rfl).c3
    have g0 := (A2.out.atBox 0 rfl).frozen 0
    have g1 := (A2.out.atBox 0 rfl).frozen 1
    have g2 := (A2.out.atBox 0 rfl).frozen 2
    have A3 := hide (A2.out.put3 0 rfl (.slice none 0 0) (.slice none 0 0) (.bool false))
    go_wp2
    exact bodyPost_ret (res_hl2 rfl _ _ (w.heap.size + 1) _ _ _ (0, 0) rfl (A3.out.atBox 0 rfl)) rfl ⟨_, _, rfl, Two.nil _ _ _, A3.out.below⟩
  | true =>
  have FT := hide (HF.out.1 rfl).2
  obtain ⟨a, rfl⟩ : ∃ a : Nat, A = (a : Int) := ⟨A.toNat, by have := FT.out.1; omega⟩
  have ha5 : a + 5 ≤ P.length := by have := FT.out.2; omega
  have C3 := hide (fun W h1 h2 h3 => l8Seen_calls (.slice ap P.length cp) (.slice ah H.length ch) (.slice ab B.length cb) P H B a least W GK.out ha5 h1 h2 h3)
  have e1 : hlX true P H B least (a : Int) = losE ((skL P H B least a).map epo) 5 := by unfold hlX esS; rw [if_pos rfl, Int.toNat_natCast]
  have e2 : hlY true P H B least (a : Int) = staE ((skL P H B least a).map epo) (rtE ((skL P H B least a).map epo) 5) 5 := by unfold hlY esS; rw [if_pos rfl, Int.toNat_natCast]
  have e3 : hlW true P H B least (a : Int) = decide ((losE ((skL P H B least a).map epo) 5).length = 0 ∧ (staE ((skL P H B least a).map epo) (rtE ((skL P H B least a).map epo) 5) 5).length = 0) := by unfold hlW; rw [Bool.true_and, e1, e2]
  rw [e3, e1, e2]
  have el : ((skL P H B least a).map epo).length = 5 := by rw [List.length_map, skL_length]
  generalize bdL (skL P H B least a) = M at C3
  generalize (skL P H B least a).map epo = es at C3 el
  have C4 := hide (fun W v (hv : Rd W v es) => l8Right_calls v es W hv (by omega))
  rw [el] at C4
  clear e1 e2 e3 HF FT HG
  generalize rtE es 5 = rt at C4
  obtain ⟨lo, hlo⟩ : ∃ lo : Nat → List Int, lo = losE es := ⟨_, rfl⟩
  obtain ⟨st, hst⟩ : ∃ st : Nat → List Int, st = staE es rt := ⟨_, rfl⟩
  have l0 : lo 0 = [] := by rw [hlo]; rfl
  have s0 : st 0 = [] := by rw [hst]; rfl
  have ls : ∀ k, lo (k + 1) = if es.getD k 0 < 0 then lo k ++ [(k : Int)] else lo k := by
    intro k
    rw [hlo]
    show (if decide (es.getD k 0 < 0) = true then _ else _) = _
    simp only [decide_eq_true_eq]
    rfl
  have ss : ∀ k, st (k + 1) = if 0 ≤ es.getD k 0 ∧ ¬ es.getD k 0 = rt then st k ++ [(k : Int)] else st k := by
    intro k
    rw [hst]
    show (if decide (0 ≤ es.getD k 0 ∧ ¬ es.getD k 0 = rt) = true then _ else _) = _
    simp only [decide_eq_true_eq]
    rfl
  have ll : ∀ k, (lo k).length ≤ k := by intro k; rw [hlo]; exact pkE_le _ _ _
  have sl : ∀ k, (st k).length ≤ k := by intro k; rw [hst]; exact pkE_le _ _ _
  rw [← hlo, ← hst]
  have L0 := hide l0
  have S0 := hide s0
  have LS := hide ls
  have SS := hide ss
  have LL := hide ll
  have SL := hide sl
  have EL := hide el
  clear hlo hst l0 s0 ls ss ll sl el
  obtain ⟨rr, hr⟩ : ∃ rr : Bool, rr = decide ((lo 5).length = 0 ∧ (st 5).length = 0) := ⟨_, rfl⟩
  rw [← hr]
  have HR := hide hr
  clear hr
  obtain ⟨c0, c1, c2⟩ := (A0.out.atBox 1 rfl).c3
  go_enter Try.func5, Try.ntmps5
  go_wp2_with fail
  refine (C1.out _ (RP.out.below A0.out.below) (RH.out.below A0.out.below) (RB.out.below A0.out.below)).mono ?_
  rintro e w1 ⟨rfl, q⟩
  have A1 := hide (A0.out.step q)
  clear q A0 c0 c1 c2
  obtain ⟨c0, c1, c2⟩ := (A1.out.atBox 1 rfl).c3
  go_wp2_with fail
  refine (C2.out _ _ _ _ _).mono ?_
  rintro e w2 ⟨rfl, q⟩
  have A2 := hide (A1.out.step q)
  clear q A1 c0 c1 c2
  obtain ⟨c0, c1, c2⟩ := (A2.out.atBox 1 rfl).c3
  go_wp2_with fail
  refine (C3.out _ (RP.out.below A2.out.below) (RH.out.below A2.out.below) (RB.out.below A2.out.below)).mono ?_
  rintro e w3 ⟨vm, ve, vss, rfl, sn, q⟩
  have A3 := hide (A2.out.add q (TInts.st ve es) ⟨sn.ep, sn.te⟩)
  have RE := hide (Own.rd sn.ep)
  clear q A2 c0 c1 c2 sn
  go_wp2_with fail
  refine (C4.out _ _ RE.out).mono ?_
  rintro e w4 ⟨rfl, rfl⟩
  obtain ⟨ae, ce, hve, _⟩ := RE.out
  rw [EL.out] at hve
  subst hve
  clear RE
  obtain ⟨gh, hgh⟩ : ∃ gh, gh = w3.heap.size := ⟨_, rfl⟩
  have A4 : Hid (Hand w (w3.alloc (.cells #[.slice none 0 0, .slice none 0 0, .bool false] 29)) [TTwo (.slice none 0 0) (.slice none 0 0) [] [], TBox gh #[.slice none 0 0, .slice none 0 0, .bool false] 29, TInts (.slice ae 5 ce) es, TBox (w.heap.size + 1) #[.slice none 0 0, .slice none 0 0, .bool false] 29, TBox w.heap.size #[.slice ap P.length cp, .slice ah H.length ch, .slice ab B.length cb] 32]) := by
    show Hand _ _ _
    rw [hgh]
    exact (A3.out.box #[.slice none 0 0, .slice none 0 0, .bool false] 29).add (Below.refl _ _) (TTwo.st (.slice none 0 0) (.slice none 0 0) [] []) (Two.nil _ _ _)
  have HGH := hide hgh
  clear hgh
  go_wp2
  rw [← HGH.out]
  go_loopw [12, 13, 35, 40, 49] (fun _ _ vi _ _ wr => ∃ (k : Nat) (vl vs : Value), k ≤ 5 ∧ vi = .int .i64 k ∧ Hand w wr [TTwo vl vs (lo k) (st k), TBox gh #[vl, vs, .bool false] 29, TInts (.slice ae 5 ce) es, TBox (w.heap.size + 1) #[.slice none 0 0, .slice none 0 0, .bool false] 29, TBox w.heap.size #[.slice ap P.length cp, .slice ah H.length ch, .slice ab B.length cb] 32]) (fun _ _ vi _ _ _ => 5 - (intOf vi).toNat)
  case atStart =>
    refine ⟨0, .slice none 0 0, .slice none 0 0, Nat.zero_le _, rfl, ?_⟩
    rw [L0.out, S0.out]
    exact A4.out
  case round =>
    clear A4
    obtain ⟨k, vl, vs, hk, rfl, hH⟩ := hrel
    have AH := hide hH
    obtain ⟨zl, zh, tw⟩ := hH.get 0 rfl
    obtain ⟨al, cl, rfl⟩ := row_slice tw.a
    obtain ⟨asx, csx, rfl⟩ := row_slice tw.b
    clear tw hH zl zh
    have l1 := LL.out k
    have s1 := SL.out k
    by_cases hlt : k < 5
    · have hlt' : (k : Int) < 5 := by omega
      obtain ⟨y1, y2, ⟨oe, oe2⟩⟩ := AH.out.get 2 rfl
      obtain ⟨a', c', e', _, _, h3⟩ := Own.rd oe
      simp only [Value.slice.injEq] at e'
      obtain ⟨rfl, e5, rfl⟩ := e'
      clear e5
      rcases h3 with h3 | ⟨b', off, rfl, hbs, hc⟩
      · have := EL.out
        rw [h3] at this
        simp at this
      have hck := hc k (by rw [EL.out]; exact hlt)
      have E1 := hide (LS.out k)
      have E2 := hide (SS.out k)
      generalize es.getD k 0 = E at hck E1 E2
      clear hc oe oe2 y1 y2 hbs
      by_cases h0 : E < 0
      · have e1 : Hid (lo (k + 1) = lo k ++ [(k : Int)]) := by show _ = _; rw [E1.out, if_pos h0]
        have e2 : Hid (st (k + 1) = st k) := by show _ = _; rw [E2.out, if_neg (fun h => by omega)]
        clear E1 E2
        have A1 := hide (AH.out.step (below_box wr (.cells #[.int .i64 (k : Int)] 3)))
        obtain ⟨b0, b1, b2⟩ := (AH.out.atBox 1 rfl).c3
        have hcn : (wr.alloc (.cells #[.int .i64 (k : Int)] 3)).cell? ⟨wr.heap.size, 0, none⟩ = some (.int .i64 (k : Int)) := (BoxAt.new wr #[.int .i64 (k : Int)] 3).cell 0
        obtain ⟨zl, zh, tw, t1, t2, t3, put⟩ := A1.out.openTop
        have TW := hide tw
        have PUT := hide put
        clear tw put
        go_wp2_with (at_builtin; refine wpList_append_int1 rfl _ _ rfl zl _ (lo k).length (lo k) k rfl TW.out.a wr.heap.size rfl hcn (by omega) (by omega) ?_)
        intro g2 cap2 w2 o2 p2 q2 r2
        obtain ⟨tw2, ch2⟩ := TW.out.grow t2 o2 rfl p2 (by simpa using q2) r2
        have A2 := hide (PUT.out w2 (TTwo _ _ _ _) (TTwo.st _ _ _ _) tw2 ch2)
        have A3 := hide (A2.out.set3 1 rfl 0 (.slice (some ⟨g2, 0, none⟩) ((lo k).length + 1) cap2))
        obtain ⟨d0, d1, d2⟩ := (A2.out.atBox 1 rfl).c3
        have e0 := (A2.out.atBox 1 rfl).frozen 0
        clear o2 p2 q2 r2 tw2 ch2 TW PUT hcn A1 AH b0 b1 b2 A2
        go_wp2
        go_roundw
        case rel =>
          refine ⟨k + 1, .slice (some ⟨g2, 0, none⟩) ((lo k).length + 1) cap2, .slice asx (st k).length csx, by omega, by go_num, ?_⟩
          rw [e1.out, e2.out]
          have := A3.out
          simpa using this
        case measure => simp [intOf]; omega
      · have e1 : Hid (lo (k + 1) = lo k) := by show _ = _; rw [E1.out, if_neg h0]
        by_cases hE : E = rt
        · have e2 : Hid (st (k + 1) = st k) := by show _ = _; rw [E2.out, if_neg (fun h => h.2 hE)]
          clear E1 E2
          subst hE
          go_wp2
          go_roundw
          case rel =>
            refine ⟨k + 1, .slice al (lo k).length cl, .slice asx (st k).length csx, by omega, by go_num, ?_⟩
            rw [e1.out, e2.out]
            exact AH.out
          case measure => simp [intOf]; omega
        · have e2 : Hid (st (k + 1) = st k ++ [(k : Int)]) := by show _ = _; rw [E2.out, if_pos ⟨by omega, hE⟩]
          have hE' : (E == rt) = false := by simpa using hE
          have hE2 : (E != rt) = true := by simpa using hE
          clear E1 E2
          have A1 := hide (AH.out.step (below_box wr (.cells #[.int .i64 (k : Int)] 3)))
          obtain ⟨b0, b1, b2⟩ := (AH.out.atBox 1 rfl).c3
          have hcn : (wr.alloc (.cells #[.int .i64 (k : Int)] 3)).cell? ⟨wr.heap.size, 0, none⟩ = some (.int .i64 (k : Int)) := (BoxAt.new wr #[.int .i64 (k : Int)] 3).cell 0
          obtain ⟨zl, zh, tw, t1, t2, t3, put⟩ := A1.out.openTop
          have TW := hide tw
          have PUT := hide put
          clear tw put
          go_wp2_with (at_builtin; refine wpList_append_int1 rfl _ _ rfl zl _ (st k).length (st k) k rfl TW.out.b wr.heap.size rfl hcn (by omega) (by omega) ?_)
          intro g2 cap2 w2 o2 p2 q2 r2
          obtain ⟨tw2, ch2⟩ := TW.out.swap.grow t2 o2 rfl p2 (by simpa using q2) r2
          have A2 := hide (PUT.out w2 (TTwo _ _ _ _) (TTwo.st _ _ _ _) tw2.swap ch2)
          have A3 := hide (A2.out.set3 1 rfl 1 (.slice (some ⟨g2, 0, none⟩) ((st k).length + 1) cap2))
          obtain ⟨d0, d1, d2⟩ := (A2.out.atBox 1 rfl).c3
          have e0 := (A2.out.atBox 1 rfl).frozen 1
          clear o2 p2 q2 r2 tw2 ch2 TW PUT hcn A1 AH b0 b1 b2 A2
          go_wp2
          go_roundw
          case rel =>
            refine ⟨k + 1, .slice al (lo k).length cl, .slice (some ⟨g2, 0, none⟩) ((st k).length + 1) cap2, by omega, by go_num, ?_⟩
            rw [e1.out, e2.out]
            have := A3.out
            simpa using this
          case measure => simp [intOf]; omega
    · obtain rfl : k = 5 := by omega
      obtain ⟨b0, b1, b2⟩ := (AH.out.atBox 1 rfl).c3
      have f2 := (AH.out.atBox 1 rfl).frozen 2
      have A1 := hide ((AH.out.set3 1 rfl 2 (.bool rr)).put3 3 rfl (.slice al (lo 5).length cl) (.slice asx (st 5).length csx) (.bool rr))
      obtain ⟨x0, x1, x2⟩ := ((AH.out.set3 1 rfl 2 (.bool rr)).atBox 1 rfl).c3
      obtain ⟨d0, d1, d2⟩ := ((AH.out.set3 1 rfl 2 (.bool rr)).atBox 3 rfl).c3
      have g0 := ((AH.out.set3 1 rfl 2 (.bool rr)).atBox 3 rfl).frozen 0
      have g1 := ((AH.out.set3 1 rfl 2 (.bool rr)).atBox 3 rfl).frozen 1
      have g2 := ((AH.out.set3 1 rfl 2 (.bool rr)).atBox 3 rfl).frozen 2
      generalize hnl : (lo 5).length = nl at *
      generalize hns : (st 5).length = ns at *
      have HNL := hide hnl
      have HNS := hide hns
      clear hnl hns
      have fin : Hid (∀ W, W = (((wr.setCell ⟨gh, 2, none⟩ (.bool rr)).setCell ⟨w.heap.size + 1, 0, none⟩ (.slice al nl cl)).setCell ⟨w.heap.size + 1, 1, none⟩ (.slice asx ns csx)).setCell ⟨w.heap.size + 1, 2, none⟩ (.bool rr) → BoxAt W (w.heap.size + 1) #[.slice al nl cl, .slice asx ns csx, .bool rr] 29 ∧ Two W w.heap.size W.heap.size (.slice al nl cl) (.slice asx ns csx) (lo 5) (st 5) ∧ Below w.heap.size w W) := by
        rintro W rfl
        refine ⟨A1.out.atBox 3 rfl, ?_, A1.out.below⟩
        obtain ⟨z1, z2, tt, z3, z4, _⟩ := A1.out.open 0 rfl
        exact Two.mono tt z3 z4
      by_cases h1 : nl = 0 ∧ ns = 0
      · obtain ⟨rfl, rfl⟩ := h1
        have er : rr = true := by rw [HR.out]; exact decide_eq_true ⟨rfl, rfl⟩
        subst er
        go_wp2
        obtain ⟨y1, y2, y3⟩ := fin.out _ rfl
        exact bodyPost_ret (res_hl2 rfl _ _ (w.heap.size + 1) _ _ _ (0, 0) rfl y1) rfl ⟨_, _, rfl, y2, y3⟩
      · have er : rr = false := by rw [HR.out]; exact decide_eq_false h1
        subst er
        have h1' : ¬ (nl : Int) + (ns : Int) = 0 := by omega
        have h1'' : (((nl : Int) + (ns : Int)) == 0) = false := by simpa using h1'
        go_wp2
        obtain ⟨y1, y2, y3⟩ := fin.out _ rfl
        exact bodyPost_ret (res_hl2 rfl _ _ (w.heap.size + 1) _ _ _ (0, 0) rfl y1) rfl ⟨_, _, rfl, y2, y3⟩
end Go.Proofs.Ytbgadbokejaomaa

namespace Go.Proofs.Ytbgadbokejaomaa
open Go.RowKit
set_option linter.unusedVariables false

set_option maxRecDepth 100000 in
set_option maxHeartbeats 800000 in
theorem eqHealth_same (l1 s1 l2 s2 : Value) (X Y : List Int) (ww : Bool) (w : World) (h1 : Rd w l1 X) (h2 : Rd w s1 Y) (h3 : Rd w l2 X) (h4 : Rd w s2 Y) :
    Calls Try.prog 8 #[.agg #[l1, s1, .bool ww], .agg #[l2, s2, .bool ww]] w fun e w' => e = .returned (.bool true) ∧ Below w.heap.size w w' := by
  have A0 : Hid (Hand w ((w.alloc (.cells #[l1, s1, .bool ww] 29)).alloc (.cells #[l2, s2, .bool ww] 29)) [TBox (w.heap.size + 1) #[l2, s2, .bool ww] 29, TBox w.heap.size #[l1, s1, .bool ww] 29]) := by
    show Hand _ _ _
    have := ((Hand.start w).box #[l1, s1, .bool ww] 29).box #[l2, s2, .bool ww] 29
    simpa using this
  have R1 := hide h1
  have R2 := hide h2
  have R3 := hide h3
  have R4 := hide h4
  clear h1 h2 h3 h4
  go_enter Try.func8, Try.ntmps8
  obtain ⟨a0, a1, a2⟩ := (A0.out.atBox 0 rfl).c3
  obtain ⟨b0, b1, b2⟩ := (A0.out.atBox 1 rfl).c3
  go_wp2_with fail
  refine (eqIntS_same _ _ X _ (R1.out.below A0.out.below) (R3.out.below A0.out.below)).mono ?_
  rintro e w1 ⟨rfl, q⟩
  have A1 := hide (A0.out.step q)
  clear q A0 a0 a1 a2 b0 b1 b2
  obtain ⟨a0, a1, a2⟩ := (A1.out.atBox 0 rfl).c3
  obtain ⟨b0, b1, b2⟩ := (A1.out.atBox 1 rfl).c3
  go_wp2_with fail
  refine (eqIntS_same _ _ Y _ (R2.out.below A1.out.below) (R4.out.below A1.out.below)).mono ?_
  rintro e w2 ⟨rfl, q⟩
  have A2 := hide (A1.out.step q)
  clear q A1 a0 a1 a2 b0 b1 b2
  obtain ⟨a0, a1, a2⟩ := (A2.out.atBox 0 rfl).c3
  obtain ⟨b0, b1, b2⟩ := (A2.out.atBox 1 rfl).c3
  go_wp2
  go_ret
  exact ⟨rfl, A2.out.below⟩

set_option maxRecDepth 100000 in
set_option maxHeartbeats 800000 in
theorem markHealth_calls (l s : Value) (X Y : List Int) (ww : Bool) (k : Int) (lo hi : Nat) (w : World) (t : Two w lo hi l s X Y) (hhi : hi ≤ w.heap.size) (hk0 : 0 ≤ k) (hk : k ≤ 1000000) (hx : X.length ≤ 1000) (hy : Y.length ≤ 1000) :
    Calls Try.prog 11 #[.agg #[l, s, .bool ww], .int .i64 k] w fun e w' => e = .returned (.int .i64 (k + X.length + Y.length)) ∧ Two w' lo hi l s (marks k X.length) (marks (k + X.length) Y.length) ∧ Chg lo hi w w' := by
  have D0 := hide (t.below (below_box w (.cells #[l, s, .bool ww] 29)))
  have C0 : Hid (Chg lo hi w (w.alloc (.cells #[l, s, .bool ww] 29))) := Chg.ofAlloc w _
  have X0 := hide (BoxAt.new w #[l, s, .bool ww] 29)
  clear t
  obtain ⟨n1, e1⟩ : ∃ n, n = k + X.length := ⟨_, rfl⟩
  rw [← e1]
  have b1 : n1 ≤ 1001000 := by omega
  have p1 : 0 ≤ n1 := by omega
  have E1 := hide e1
  clear e1
  go_enter Try.func11, Try.ntmps11
  go_wp2_with fail
  refine (markIntS_calls _ X k lo _ D0.out.a hk0 (by omega) (by omega)).mono ?_
  rintro e w1 ⟨rfl, o1, g1⟩
  have ch : Chg lo hi (w.alloc (.cells #[l, s, .bool ww] 29)) w1 := Chg.ofGrown g1 fun j hj => ⟨row_low D0.out.a j hj, D0.out.ta j hj⟩
  have C1 := hide (C0.out.trans ch)
  have X1 := hide (X0.out.chg ch (.inr hhi))
  have D1 : Hid (Two w1 lo hi l s (marks k X.length) Y) := ⟨by have := o1; exact this, World.ownsRow.kept D0.out.b g1 (ne_swap D0.out.ne), D0.out.ta, D0.out.tb, D0.out.ne⟩
  clear o1 g1 C0 X0 D0 ch
  rw [← E1.out]
  obtain ⟨c0, c1, c2⟩ := X1.out.c3
  clear c0 c2
  go_wp2_with fail
  refine (markIntS_calls _ Y n1 lo _ D1.out.b p1 (by omega) (by omega)).mono ?_
  rintro e w2 ⟨rfl, o1, g1⟩
  have ch : Chg lo hi w1 w2 := Chg.ofGrown g1 fun j hj => ⟨row_low D1.out.b j hj, D1.out.tb j hj⟩
  have C2 := hide (C1.out.trans ch)
  have D2 : Hid (Two w2 lo hi l s (marks k X.length) (marks n1 Y.length)) := ⟨World.ownsRow.kept D1.out.a g1 D1.out.ne, by have := o1; exact this, D1.out.ta, D1.out.tb, D1.out.ne⟩
  clear o1 g1 C1 X1 D1 ch c1
  go_wp2
  go_ret
  exact ⟨rfl, D2.out, C2.out⟩

set_option maxRecDepth 100000 in
set_option maxHeartbeats 800000 in
theorem heldHealth_calls (l s : Value) (n m : Nat) (ww : Bool) (k : Int) (w : World) (h1 : Rd w l (marks k n)) (h2 : Rd w s (marks (k + n) m)) (hk0 : 0 ≤ k) (hk : k ≤ 1000000) (hn : n ≤ 1000) (hm : m ≤ 1000) :
    Calls Try.prog 12 #[.agg #[l, s, .bool ww], .int .i64 k] w fun e w' => e = .returned (.int .i64 (k + n + m)) ∧ Below w.heap.size w w' := by
  have B0 := hide (below_box w (.cells #[l, s, .bool ww] 29))
  obtain ⟨c0, c1, c2⟩ := (BoxAt.new w #[l, s, .bool ww] 29).c3
  have C1 := hide (fun W h => heldIntS_calls l n k W h hk0 (by omega) (by omega))
  have C2 := hide (fun W h => heldIntS_calls s m (k + n) W h (by omega) (by omega) (by omega))
  obtain ⟨n1, e1⟩ : ∃ x, x = k + (n : Int) := ⟨_, rfl⟩
  rw [← e1] at C2 h2 ⊢
  have b1 : n1 ≤ 1001000 := by omega
  have p1 : ¬ n1 < 0 := by omega
  have p2 : ¬ n1 + (m : Int) < 0 := by omega
  have E1 := hide e1
  have R1 := hide h1
  have R2 := hide h2
  clear e1 h1 h2
  go_enter Try.func12, Try.ntmps12
  go_wp2_with fail
  refine (C1.out _ (R1.out.below B0.out)).mono ?_
  rintro e w1 ⟨rfl, rfl⟩
  rw [← E1.out]
  go_wp2_with fail
  refine (C2.out _ (R2.out.below B0.out)).mono ?_
  rintro e w1 ⟨rfl, rfl⟩
  go_wp2
  go_ret
  exact ⟨rfl, B0.out⟩
end Go.Proofs.Ytbgadbokejaomaa

namespace Go.Proofs.Ytbgadbokejaomaa
open Go.RowKit
set_option linter.unusedVariables false

set_option maxRecDepth 100000 in
set_option maxHeartbeats 1600000 in
theorem fnExactHealthOf_walk (p h b : Value) (P H : List ByteArray) (B : List Bool) (A least : Int) (w : World) (hp : RdT w p P) (hh : RdT w h H) (hb : RdZ w b B) (hA : (Lit.int .i64 A).wf = true) (hL : (Lit.int .i64 least).wf = true) :
    Calls Try.prog 3 #[.agg #[p, h, b], .int .i64 A, .int .i64 least] w fun e w' => e = .returned (.bool true) ∧ Below w.heap.size w w' := by
  have RP := hide hp
  have RH := hide hh
  have RB := hide hb
  obtain ⟨f, hf⟩ := ft_bool P H B A
  have C1 := hide (fun V p h b h1 h2 h3 => sHealthOf_calls p h b P H B A least f V hf hA h1 h2 h3)
  have C2 := hide (fun V p h b h1 h2 h3 => healthOf_calls p h b P H B A least f V hf hA h1 h2 h3)
  have xl := hlX_le f P H B least A
  have yl := hlY_le f P H B least A
  generalize hlW f P H B least A = ww at C1 C2
  generalize hlX f P H B least A = X at C1 C2 xl
  generalize hlY f P H B least A = Y at C1 C2 yl
  clear hp hh hb hf
  have A0 := hide ((Hand.start w).box #[p, h, b] 25)
  go_enter Try.func3, Try.ntmps3
  go_wp2_with fail
  refine (szDisk_calls p h b P H B _ (RP.out.below A0.out.below) (RH.out.below A0.out.below) (RB.out.below A0.out.below)).mono ?_
  rintro e w1 ⟨⟨r, rfl, hr⟩, q⟩
  have A1 := hide (A0.out.step q)
  clear A0 q
  by_cases r0 : r < 0
  · go_wp2
    go_ret
    exact ⟨rfl, A1.out.below⟩
  have SZ := hide (hr.resolve_left r0).2.2
  have r1 := (hr.resolve_left r0).2.1
  clear hr
  obtain ⟨caD0, caD1, caD2⟩ := (A1.out.atBox 0 rfl).c3
  go_wp2_with fail
  refine (toDisk_calls p h b P H B _ (RP.out.below A1.out.below) (RH.out.below A1.out.below) (RB.out.below A1.out.below) SZ.out).mono ?_
  rintro e w2 ⟨px, hx, bx, rfl, d, q⟩
  obtain ⟨apx, cpx, ahx, chx, abx, cbx, rfl, rfl, rfl⟩ := d.sl
  have ltx := q.size
  (try simp only [World.size_alloc] at ltx)
  have A2 := hide (A1.out.add q (TDsk.st _ _ _ _ _ _) d)
  clear A1 caD0 caD1 caD2 q d
  obtain ⟨lox, hix, dx⟩ := A2.out.get 0 rfl
  have Dx : Hid (DskV _ lox hix _ _ _ P H B) := dx
  clear dx
  go_wp2_with fail
  refine (C1.out _ _ _ _ Dx.out.rp Dx.out.rh Dx.out.rb).mono ?_
  rintro e w3 ⟨vl, vs, rfl, tw, q⟩
  obtain ⟨aly, cly, rfl⟩ := row_slice tw.a
  obtain ⟨asy, csy, rfl⟩ := row_slice tw.b
  have lty := q.size
  (try simp only [World.size_alloc] at lty)
  have A3 := hide ((A2.out.add q (TTwo.st _ _ _ _) tw).box #[.slice aly X.length cly, .slice asy Y.length csy, .bool ww] 29)
  clear A2 Dx lox hix q tw
  obtain ⟨caD0, caD1, caD2⟩ := (A3.out.atBox 3 rfl).c3
  go_wp2_with fail
  refine (toDisk_calls p h b P H B _ (RP.out.below A3.out.below) (RH.out.below A3.out.below) (RB.out.below A3.out.below) SZ.out).mono ?_
  rintro e w4 ⟨pz, hz, bz, rfl, d, q⟩
  obtain ⟨apz, cpz, ahz, chz, abz, cbz, rfl, rfl, rfl⟩ := d.sl
  have ltz := q.size
  (try simp only [World.size_alloc] at ltz)
  have A4 := hide ((A3.out.add q (TDsk.st _ _ _ _ _ _) d).box #[.slice apz P.length cpz, .slice ahz H.length chz, .slice abz B.length cbz] 32)
  clear A3 caD0 caD1 caD2 q d
  obtain ⟨loz, hiz, dz⟩ := A4.out.get 1 rfl
  have Dz : Hid (DskV _ loz hiz _ _ _ P H B) := dz
  clear dz
  go_wp2_with fail
  refine (C2.out _ _ _ _ Dz.out.rp Dz.out.rh Dz.out.rb).mono ?_
  rintro e w5 ⟨vl, vs, rfl, tw, q⟩
  obtain ⟨alu, clu, rfl⟩ := row_slice tw.a
  obtain ⟨asu, csu, rfl⟩ := row_slice tw.b
  have ltu := q.size
  (try simp only [World.size_alloc] at ltu)
  have A5 := hide ((A4.out.add q (TTwo.st _ _ _ _) tw).box #[.slice alu X.length clu, .slice asu Y.length csu, .bool ww] 29)
  clear A4 Dz loz hiz q tw
  obtain ⟨cg00, cg01, cg02⟩ := (A5.out.atBox 0 rfl).c3
  obtain ⟨cw00, cw01, cw02⟩ := (A5.out.atBox 4 rfl).c3
  obtain ⟨lou, hiu, du⟩ := A5.out.get 1 rfl
  have Du : Hid (Two _ lou hiu _ _ X Y) := du
  clear du
  obtain ⟨loy, hiy, dy⟩ := A5.out.get 5 rfl
  have Dy : Hid (Two _ loy hiy _ _ X Y) := dy
  clear dy
  go_wp2_with fail
  refine (eqHealth_same _ _ _ _ X Y ww _ Du.out.a.rd Du.out.b.rd Dy.out.a.rd Dy.out.b.rd).mono ?_
  rintro e w6 ⟨rfl, q⟩
  have A6 := hide (A5.out.step q)
  clear A5 cg00 cg01 cg02 cw00 cw01 cw02 Du lou hiu Dy loy hiy q
  go_wp2
  obtain ⟨lo, hi, dd⟩ := A6.out.get 3 rfl
  have D5 : Hid (DskV _ lo hi _ _ _ P H B) := dd
  clear dd
  have F : Hid (∀ w', Below w6.heap.size w6 w' → (w'.cell? ⟨w.heap.size, 0, none⟩ = some p ∧ w'.cell? ⟨w.heap.size, 1, none⟩ = some h ∧ w'.cell? ⟨w.heap.size, 2, none⟩ = some b) ∧ (w'.cell? ⟨w4.heap.size, 0, none⟩ = some (.slice apz P.length cpz) ∧ w'.cell? ⟨w4.heap.size, 1, none⟩ = some (.slice ahz H.length chz) ∧ w'.cell? ⟨w4.heap.size, 2, none⟩ = some (.slice abz B.length cbz))) :=
    fun w' hb => ⟨((A6.out.step hb).atBox 7 rfl).c3, ((A6.out.step hb).atBox 2 rfl).c3⟩
  go_region_held3 (fun w' => (w'.cell? ⟨w.heap.size, 0, none⟩ = some p ∧ w'.cell? ⟨w.heap.size, 1, none⟩ = some h ∧ w'.cell? ⟨w.heap.size, 2, none⟩ = some b) ∧ (w'.cell? ⟨w4.heap.size, 0, none⟩ = some (.slice apz P.length cpz) ∧ w'.cell? ⟨w4.heap.size, 1, none⟩ = some (.slice ahz H.length chz) ∧ w'.cell? ⟨w4.heap.size, 2, none⟩ = some (.slice abz B.length cbz))) (first | exact F.out _ (Below.refl _ _).drew | exact F.out _ B2.out | exact F.out _ B1.out)
    ((first | (go_at_call 9; refine (eqDisk_same _ _ _ _ _ _ P H B _ (D5.out.below B1.out).rp (D5.out.below B1.out).rh (D5.out.below B1.out).rb D6.out.rp D6.out.rh D6.out.rb).mono ?_; rintro e' wr7 ⟨rfl, b7⟩; have B2 := hide (B1.out.trans (b7.mono B1.out.size)); clear b7) | (go_at_call 6; refine (toDisk_calls p h b P H B _ (RP.out.below (A6.out.step (Below.refl _ _).drew).below) (RH.out.below (A6.out.step (Below.refl _ _).drew).below) (RB.out.below (A6.out.step (Below.refl _ _).drew).below) SZ.out).mono ?_; rintro e' wr6 ⟨p3, h3, b3, rfl, d6, b6⟩; have D6 := hide d6; have B1 := hide ((Below.refl w6.heap.size w6).drew.trans b6); clear b6 d6)))
  have A7 := hide (A6.out.step B2.out)
  clear A6 F B1 B2 D5 D6 lo hi
  obtain ⟨cx00, cx01, cx02⟩ := (A7.out.atBox 2 rfl).c3
  obtain ⟨loz, hiz, dz, lw, hw, put⟩ := A7.out.open 3 rfl
  have Dz : Hid (DskV _ loz hiz _ _ _ P H B) := dz
  have PUT := hide put
  clear dz put lw
  go_wp2_with fail
  refine (markDisk_calls _ _ _ P H B 1 loz hiz _ Dz.out hw (by omega) (by omega) SZ.out).mono ?_
  rintro e w8 ⟨rfl, d4, q⟩
  have A8 := hide (PUT.out _ (TDsk _ _ _ _ _ _) (TDsk.st _ _ _ _ _ _) d4 q)
  clear A7 cx00 cx01 cx02 Dz loz hiz PUT hw q d4
  have kk : ¬ ((1 + P.length + H.length + B.length : Nat) : Int) < 0 := by omega
  obtain ⟨cg00, cg01, cg02⟩ := (A8.out.atBox 0 rfl).c3
  obtain ⟨cw00, cw01, cw02⟩ := (A8.out.atBox 4 rfl).c3
  obtain ⟨lou, hiu, du⟩ := A8.out.get 1 rfl
  have Du : Hid (Two _ lou hiu _ _ X Y) := du
  clear du
  obtain ⟨loy, hiy, dy⟩ := A8.out.get 5 rfl
  have Dy : Hid (Two _ loy hiy _ _ X Y) := dy
  clear dy
  go_wp2_with fail
  refine (eqHealth_same _ _ _ _ X Y ww _ Du.out.a.rd Du.out.b.rd Dy.out.a.rd Dy.out.b.rd).mono ?_
  rintro e w9 ⟨rfl, q⟩
  have A9 := hide (A8.out.step q)
  clear A8 cg00 cg01 cg02 cw00 cw01 cw02 Du lou hiu Dy loy hiy q
  obtain ⟨cg00, cg01, cg02⟩ := (A9.out.atBox 0 rfl).c3
  obtain ⟨lou, hiu, du, lw, hw, put⟩ := A9.out.open 1 rfl
  have Du : Hid (Two _ lou hiu _ _ X Y) := du
  have PUT := hide put
  clear du put lw
  go_wp2_with fail
  refine (markHealth_calls _ _ X Y ww 1 lou hiu _ Du.out hw (by omega) (by omega) (by omega) (by omega)).mono ?_
  rintro e w10 ⟨rfl, d4, q⟩
  have A10 := hide (PUT.out _ (TTwo _ _ _ _) (TTwo.st _ _ _ _) d4 q)
  clear A9 cg00 cg01 cg02 Du lou hiu PUT hw q d4
  obtain ⟨cg00, cg01, cg02⟩ := (A10.out.atBox 0 rfl).c3
  obtain ⟨lou, hiu, du⟩ := A10.out.get 1 rfl
  have Du : Hid (Two _ lou hiu _ _ (marks 1 X.length) (marks (1 + X.length) Y.length)) := du
  clear du
  go_wp2_with fail
  refine (heldHealth_calls _ _ X.length Y.length ww 1 _ Du.out.a.rd Du.out.b.rd (by omega) (by omega) (by omega) (by omega)).mono ?_
  rintro e w11 ⟨rfl, q⟩
  have A11 := hide (A10.out.step q)
  clear A10 cg00 cg01 cg02 Du lou hiu q
  obtain ⟨caD0, caD1, caD2⟩ := (A11.out.atBox 7 rfl).c3
  go_wp2_with fail
  refine (toDisk_calls p h b P H B _ (RP.out.below A11.out.below) (RH.out.below A11.out.below) (RB.out.below A11.out.below) SZ.out).mono ?_
  rintro e w12 ⟨pq1, hq1, bq1, rfl, d, q⟩
  obtain ⟨apq1, cpq1, ahq1, chq1, abq1, cbq1, rfl, rfl, rfl⟩ := d.sl
  have ltq1 := q.size
  (try simp only [World.size_alloc] at ltq1)
  have A12 := hide (A11.out.add q (TDsk.st _ _ _ _ _ _) d)
  clear A11 caD0 caD1 caD2 q d
  obtain ⟨loq1, hiq1, dq1⟩ := A12.out.get 0 rfl
  have Dq1 : Hid (DskV _ loq1 hiq1 _ _ _ P H B) := dq1
  clear dq1
  go_wp2_with fail
  refine (C2.out _ _ _ _ Dq1.out.rp Dq1.out.rh Dq1.out.rb).mono ?_
  rintro e w13 ⟨vl, vs, rfl, tw, q⟩
  obtain ⟨alv, clv, rfl⟩ := row_slice tw.a
  obtain ⟨asv, csv, rfl⟩ := row_slice tw.b
  have ltv := q.size
  (try simp only [World.size_alloc] at ltv)
  have A13 := hide ((A12.out.add q (TTwo.st _ _ _ _) tw).box #[.slice alv X.length clv, .slice asv Y.length csv, .bool ww] 29)
  clear A12 Dq1 loq1 hiq1 q tw
  obtain ⟨ch00, ch01, ch02⟩ := (A13.out.atBox 0 rfl).c3
  obtain ⟨cw00, cw01, cw02⟩ := (A13.out.atBox 7 rfl).c3
  obtain ⟨lov, hiv, dv⟩ := A13.out.get 1 rfl
  have Dv : Hid (Two _ lov hiv _ _ X Y) := dv
  clear dv
  obtain ⟨loy, hiy, dy⟩ := A13.out.get 8 rfl
  have Dy : Hid (Two _ loy hiy _ _ X Y) := dy
  clear dy
  go_wp2_with fail
  refine (eqHealth_same _ _ _ _ X Y ww _ Dv.out.a.rd Dv.out.b.rd Dy.out.a.rd Dy.out.b.rd).mono ?_
  rintro e w14 ⟨rfl, q⟩
  have A14 := hide (A13.out.step q)
  clear A13 ch00 ch01 ch02 cw00 cw01 cw02 Dv lov hiv Dy loy hiy q
  obtain ⟨cg00, cg01, cg02⟩ := (A14.out.atBox 3 rfl).c3
  obtain ⟨lou, hiu, du⟩ := A14.out.get 4 rfl
  have Du : Hid (Two _ lou hiu _ _ (marks 1 X.length) (marks (1 + X.length) Y.length)) := du
  clear du
  go_wp2_with fail
  refine (heldHealth_calls _ _ X.length Y.length ww 1 _ Du.out.a.rd Du.out.b.rd (by omega) (by omega) (by omega) (by omega)).mono ?_
  rintro e w15 ⟨rfl, q⟩
  have A15 := hide (A14.out.step q)
  clear A14 cg00 cg01 cg02 Du lou hiu q
  go_wp2
  go_ret
  exact ⟨rfl, A15.out.below⟩
end Go.Proofs.Ytbgadbokejaomaa

/-
  HealthOf: the program's and its model's, at every disk and numbers. No condition but that the numbers are ones of 64 bits. What is read of a stripe that was written, where no more than two of its sectors are bad. Mathematics, no program.
-/
import Derived.Test.YthdbacihhmilbaaGreatDoorStripesB29
import Derived.Test.YthdbacihhmilbaaGreatDoorStripesB37
import Derived.Test.YthdbacihhmilbaaGreatDoorStripesB36
import Derived.Test.YthdbacihhmilbaaGreatDoorStripesB0
set_option linter.unusedVariables false
set_option maxRecDepth 100000
set_option maxHeartbeats 3200000
set_option linter.unusedSimpArgs false
namespace Go.Proofs.YthdbacihhmilbaaGreatDoor
open Go.RowKit
def esS (P H : List ByteArray) (B : List Bool) (least A : Int) : List Int := (skL P H B least A.toNat).map epo
def hlX (f : Bool) (P H : List ByteArray) (B : List Bool) (least A : Int) : List Int := if f = true then losE (esS P H B least A) 5 else []
def hlY (f : Bool) (P H : List ByteArray) (B : List Bool) (least A : Int) : List Int := if f = true then staE (esS P H B least A) (rtE (esS P H B least A) 5) 5 else []
def hlW (f : Bool) (P H : List ByteArray) (B : List Bool) (least A : Int) : Bool := f && decide ((hlX f P H B least A).length = 0 ∧ (hlY f P H B least A).length = 0)
theorem Two.mono {w : World} {lo lo' hi hi' : Nat} {u v : Value} {X Y : List Int} (h : Two w lo hi u v X Y) (h1 : lo' ≤ lo) (h2 : hi ≤ hi') : Two w lo' hi' u v X Y :=
 ⟨ownsRow_mono h.a h1, ownsRow_mono h.b h1, fun k hk => Nat.lt_of_lt_of_le (h.ta k hk) h2, fun k hk => Nat.lt_of_lt_of_le (h.tb k hk) h2, h.ne⟩
theorem healthOf_calls (p h b : Value) (P H : List ByteArray) (B : List Bool) (A least : Int) (f : Bool) (w : World) (hf : f = true ↔ (gkP P H B ∧ ftP P A)) (hwf : (Lit.int .i64 A).wf = true) (hp : RdT w p P) (hh : RdT w h H) (hb : RdZ w b B) :
    Calls Tryz.prog 10 #[.agg #[p, h, b], .int .i64 A, .int .i64 least] w fun e w' => ∃ vl vs, e = .returned (.tuple #[.agg #[vl, vs, .bool (hlW f P H B least A)], .bool f]) ∧ Two w' w.heap.size w'.heap.size vl vs (hlX f P H B least A) (hlY f P H B least A) ∧ Below w.heap.size w w' := by
 have RP := hide hp
 have RH := hide hh
 have RB := hide hb
 have HF := hide hf
 have A0 : Hid (Hand w ((w.alloc (.cells #[p, h, b] 26)).alloc (.cells #[.slice none 0 0, .slice none 0 0, .bool false] 36)) [TBox (w.heap.size + 1) #[.slice none 0 0, .slice none 0 0, .bool false] 36, TBox w.heap.size #[p, h, b] 26]) := by
  show Hand _ _ _
  have := ((Hand.start w).box #[p, h, b] 26).box #[.slice none 0 0, .slice none 0 0, .bool false] 36
  simpa using this
 have C1 := hide (fun W h1 h2 h3 => liesOn_calls p h b P H B A f W hf hwf h1 h2 h3)
 clear hp hh hb hf hwf
 cases f with
 | false =>
  obtain ⟨c0, c1, c2⟩ := (A0.out.atBox 1 rfl).c3
  show Calls _ _ _ _ fun e w' => ∃ vl vs, e = .returned (.tuple #[.agg #[vl, vs, .bool false], .bool false]) ∧ Two w' w.heap.size w'.heap.size vl vs [] [] ∧ Below w.heap.size w w'
  go_enter Tryz.func10, Tryz.ntmps10
  go_wp2_with fail
  refine (C1.out _ (RP.out.below A0.out.below) (RH.out.below A0.out.below) (RB.out.below A0.out.below)).mono ?_
  rintro e w1 ⟨rfl, q⟩
  have A1 := hide (A0.out.step q)
  clear q A0 c0 c1 c2
  obtain ⟨d0, d1, d2⟩ := (A1.out.atBox 0 rfl).c3
  have g0 := (A1.out.atBox 0 rfl).frozen 0
  have g1 := (A1.out.atBox 0 rfl).frozen 1
  have g2 := (A1.out.atBox 0 rfl).frozen 2
  have A2 := hide (A1.out.put3 0 rfl (.slice none 0 0) (.slice none 0 0) (.bool false))
  go_wp2
  exact bodyPost_ret (res_hl2 rfl _ _ (w.heap.size + 1) _ _ _ (0, 0) rfl (A2.out.atBox 0 rfl)) rfl ⟨_, _, rfl, Two.nil _ _ _, A2.out.below⟩
 | true =>
  have GK := hide (HF.out.1 rfl).1
  have FT := hide (HF.out.1 rfl).2
  obtain ⟨a, rfl⟩ : ∃ a : Nat, A = (a : Int) := ⟨A.toNat, by have := FT.out.1; omega⟩
  have ha5 : a + 5 ≤ P.length := by have := FT.out.2; omega
  have C2 := hide (fun W h1 h2 h3 => findStripe_calls p h b P H B a least W GK.out ha5 h1 h2 h3)
  have C3 := hide (fun W v hv => healthIn_calls v (skL P H B least a) (rtE ((skL P H B least a).map epo) 5) W hv (skL_ok _ _ _ _ _) (by rw [skL_length]; omega))
  have e1 : hlX true P H B least (a : Int) = losE ((skL P H B least a).map epo) 5 := by unfold hlX esS; rw [if_pos rfl, Int.toNat_natCast]
  have e2 : hlY true P H B least (a : Int) = staE ((skL P H B least a).map epo) (rtE ((skL P H B least a).map epo) 5) 5 := by unfold hlY esS; rw [if_pos rfl, Int.toNat_natCast]
  have e3 : hlW true P H B least (a : Int) = decide ((losE ((skL P H B least a).map epo) 5).length = 0 ∧ (staE ((skL P H B least a).map epo) (rtE ((skL P H B least a).map epo) 5) 5).length = 0) := by unfold hlW; rw [Bool.true_and, e1, e2]
  rw [e3, e1, e2]
  rw [skL_length] at C3
  clear e1 e2 e3 HF FT
  generalize rtE ((skL P H B least a).map epo) 5 = rt at C2 C3
  generalize losE ((skL P H B least a).map epo) 5 = X at C3
  generalize staE ((skL P H B least a).map epo) rt 5 = Y at C3
  generalize decide (X.length = 0 ∧ Y.length = 0) = ww at C3
  generalize skL P H B least a = xs at C2 C3
  obtain ⟨c0, c1, c2⟩ := (A0.out.atBox 1 rfl).c3
  go_enter Tryz.func10, Tryz.ntmps10
  go_wp2_with fail
  refine (C1.out _ (RP.out.below A0.out.below) (RH.out.below A0.out.below) (RB.out.below A0.out.below)).mono ?_
  rintro e w1 ⟨rfl, q⟩
  have A1 := hide (A0.out.step q)
  clear q A0 c0 c1 c2
  obtain ⟨c0, c1, c2⟩ := (A1.out.atBox 1 rfl).c3
  go_wp2_with fail
  refine (C2.out _ (RP.out.below A1.out.below) (RH.out.below A1.out.below) (RB.out.below A1.out.below)).mono ?_
  rintro e w2 ⟨v, rfl, o, q⟩
  have A2 := hide (A1.out.step q)
  have RV := hide (OwnP.rd o)
  clear q A1 c0 c1 c2 o
  go_wp2_with fail
  refine (C3.out _ _ RV.out).mono ?_
  rintro e w3 ⟨vl, vs, rfl, tw, q⟩
  have A3 := hide (A2.out.add q (TTwo.st _ _ _ _) tw)
  clear q A2 tw RV
  obtain ⟨d0, d1, d2⟩ := (A3.out.atBox 1 rfl).c3
  have g0 := (A3.out.atBox 1 rfl).frozen 0
  have g1 := (A3.out.atBox 1 rfl).frozen 1
  have g2 := (A3.out.atBox 1 rfl).frozen 2
  obtain ⟨zl, zh, tw⟩ := A3.out.get 0 rfl
  obtain ⟨al, cl, hl1⟩ := row_slice tw.a
  obtain ⟨as', cs', hl2⟩ := row_slice tw.b
  subst hl1
  subst hl2
  clear tw zl zh
  have A4 := hide (A3.out.put3 1 rfl (.slice al X.length cl) (.slice as' Y.length cs') (.bool ww))
  go_wp2
  obtain ⟨z1, z2, tt, z3, z4, _⟩ := A4.out.open 0 rfl
  exact bodyPost_ret (res_hl2 rfl _ _ (w.heap.size + 1) _ _ _ (0, 0) rfl (A4.out.atBox 1 rfl)) rfl ⟨_, _, rfl, Two.mono tt z3 z4, A4.out.below⟩
theorem sHealthOf_calls (p h b : Value) (P H : List ByteArray) (B : List Bool) (A least : Int) (f : Bool) (w : World) (hf : f = true ↔ (gkP P H B ∧ ftP P A)) (hwf : (Lit.int .i64 A).wf = true) (hp : RdT w p P) (hh : RdT w h H) (hb : RdZ w b B) :
    Calls Tryz.prog 15 #[.agg #[p, h, b], .int .i64 A, .int .i64 least] w fun e w' => ∃ vl vs, e = .returned (.tuple #[.agg #[vl, vs, .bool (hlW f P H B least A)], .bool f]) ∧ Two w' w.heap.size w'.heap.size vl vs (hlX f P H B least A) (hlY f P H B least A) ∧ Below w.heap.size w w' := by
 have RP := hide hp
 have RH := hide hh
 have RB := hide hb
 have HF := hide hf
 have A0 : Hid (Hand w ((w.alloc (.cells #[p, h, b] 26)).alloc (.cells #[.slice none 0 0, .slice none 0 0, .bool false] 36)) [TBox (w.heap.size + 1) #[.slice none 0 0, .slice none 0 0, .bool false] 36, TBox w.heap.size #[p, h, b] 26]) := by
  show Hand _ _ _
  have := ((Hand.start w).box #[p, h, b] 26).box #[.slice none 0 0, .slice none 0 0, .bool false] 36
  simpa using this
 obtain ⟨g, hg⟩ := gk_bool' P H B
 have HG := hide hg
 have C1 := hide (fun W h1 h2 h3 => sGoodDisk_calls p h b P H B g W hg h1 h2 h3)
 obtain ⟨ap, cp, rfl, mp, _⟩ := hp.sl
 obtain ⟨ah, ch, rfl, mh, _⟩ := hh.sl
 obtain ⟨ab, cb, rfl, mb, _⟩ := hb.sl
 clear hp hh hb hf hg mp mh mb
 cases g with
 | false =>
  have ff : f = false := by
   cases f with
   | false => rfl
   | true => have := HG.out.2 (HF.out.1 rfl).1; simp at this
  subst ff
  obtain ⟨c0, c1, c2⟩ := (A0.out.atBox 1 rfl).c3
  show Calls _ _ _ _ fun e w' => ∃ vl vs, e = .returned (.tuple #[.agg #[vl, vs, .bool false], .bool false]) ∧ Two w' w.heap.size w'.heap.size vl vs [] [] ∧ Below w.heap.size w w'
  go_enter Tryz.func15, Tryz.ntmps15
  go_wp2_with fail
  refine (C1.out _ (RP.out.below A0.out.below) (RH.out.below A0.out.below) (RB.out.below A0.out.below)).mono ?_
  rintro e w1 ⟨rfl, q⟩
  have A1 := hide (A0.out.step q)
  clear q A0 c0 c1 c2
  obtain ⟨d0, d1, d2⟩ := (A1.out.atBox 0 rfl).c3
  have g0 := (A1.out.atBox 0 rfl).frozen 0
  have g1 := (A1.out.atBox 0 rfl).frozen 1
  have g2 := (A1.out.atBox 0 rfl).frozen 2
  have A2 := hide (A1.out.put3 0 rfl (.slice none 0 0) (.slice none 0 0) (.bool false))
  go_wp2
  exact bodyPost_ret (res_hl2 rfl _ _ (w.heap.size + 1) _ _ _ (0, 0) rfl (A2.out.atBox 0 rfl)) rfl ⟨_, _, rfl, Two.nil _ _ _, A2.out.below⟩
 | true =>
 have GK := hide (HG.out.1 rfl)
 have n24 : P.length ≤ 24 := GK.out.1.2
 have C2 := hide (fun W x y z t => l8Fits_calls x y z t P A f W ⟨fun h => (HF.out.1 h).2, fun h => HF.out.2 ⟨GK.out, h⟩⟩ n24)
 cases f with
 | false =>
  obtain ⟨c0, c1, c2⟩ := (A0.out.atBox 1 rfl).c3
  show Calls _ _ _ _ fun e w' => ∃ vl vs, e = .returned (.tuple #[.agg #[vl, vs, .bool false], .bool false]) ∧ Two w' w.heap.size w'.heap.size vl vs [] [] ∧ Below w.heap.size w w'
  clear HF HG
  go_enter Tryz.func15, Tryz.ntmps15
  go_wp2_with fail
  refine (C1.out _ (RP.out.below A0.out.below) (RH.out.below A0.out.below) (RB.out.below A0.out.below)).mono ?_
  rintro e w1 ⟨rfl, q⟩
  have A1 := hide (A0.out.step q)
  clear q A0 c0 c1 c2
  obtain ⟨c0, c1, c2⟩ := (A1.out.atBox 1 rfl).c3
  go_wp2_with fail
  refine (C2.out _ _ _ _ _).mono ?_
  rintro e w2 ⟨rfl, q⟩
  have A2 := hide (A1.out.step q)
  clear q A1 c0 c1 c2
  obtain ⟨d0, d1, d2⟩ := (A2.out.atBox 0 rfl).c3
  have g0 := (A2.out.atBox 0 rfl).frozen 0
  have g1 := (A2.out.atBox 0 rfl).frozen 1
  have g2 := (A2.out.atBox 0 rfl).frozen 2
  have A3 := hide (A2.out.put3 0 rfl (.slice none 0 0) (.slice none 0 0) (.bool false))
  go_wp2
  exact bodyPost_ret (res_hl2 rfl _ _ (w.heap.size + 1) _ _ _ (0, 0) rfl (A3.out.atBox 0 rfl)) rfl ⟨_, _, rfl, Two.nil _ _ _, A3.out.below⟩
 | true =>
 have FT := hide (HF.out.1 rfl).2
 obtain ⟨a, rfl⟩ : ∃ a : Nat, A = (a : Int) := ⟨A.toNat, by have := FT.out.1; omega⟩
 have ha5 : a + 5 ≤ P.length := by have := FT.out.2; omega
 have C3 := hide (fun W h1 h2 h3 => l8Seen_calls (.slice ap P.length cp) (.slice ah H.length ch) (.slice ab B.length cb) P H B a least W GK.out ha5 h1 h2 h3)
 have e1 : hlX true P H B least (a : Int) = losE ((skL P H B least a).map epo) 5 := by unfold hlX esS; rw [if_pos rfl, Int.toNat_natCast]
 have e2 : hlY true P H B least (a : Int) = staE ((skL P H B least a).map epo) (rtE ((skL P H B least a).map epo) 5) 5 := by unfold hlY esS; rw [if_pos rfl, Int.toNat_natCast]
 have e3 : hlW true P H B least (a : Int) = decide ((losE ((skL P H B least a).map epo) 5).length = 0 ∧ (staE ((skL P H B least a).map epo) (rtE ((skL P H B least a).map epo) 5) 5).length = 0) := by unfold hlW; rw [Bool.true_and, e1, e2]
 rw [e3, e1, e2]
 have el : ((skL P H B least a).map epo).length = 5 := by rw [List.length_map, skL_length]
 generalize bdL (skL P H B least a) = M at C3
 generalize (skL P H B least a).map epo = es at C3 el
 have C4 := hide (fun W v (hv : Rd W v es) => l8Right_calls v es W hv (by omega))
 rw [el] at C4
 clear e1 e2 e3 HF FT HG
 generalize rtE es 5 = rt at C4
 obtain ⟨lo, hlo⟩ : ∃ lo : Nat → List Int, lo = losE es := ⟨_, rfl⟩
 obtain ⟨st, hst⟩ : ∃ st : Nat → List Int, st = staE es rt := ⟨_, rfl⟩
 have l0 : lo 0 = [] := by rw [hlo]; rfl
 have s0 : st 0 = [] := by rw [hst]; rfl
 have ls : ∀ k, lo (k + 1) = if es.getD k 0 < 0 then lo k ++ [(k : Int)] else lo k := by
  intro k
  rw [hlo]
  show (if decide (es.getD k 0 < 0) = true then _ else _) = _
  simp only [decide_eq_true_eq]
  rfl
 have ss : ∀ k, st (k + 1) = if 0 ≤ es.getD k 0 ∧ ¬ es.getD k 0 = rt then st k ++ [(k : Int)] else st k := by
  intro k
  rw [hst]
  show (if decide (0 ≤ es.getD k 0 ∧ ¬ es.getD k 0 = rt) = true then _ else _) = _
  simp only [decide_eq_true_eq]
  rfl
 have ll : ∀ k, (lo k).length ≤ k := by intro k; rw [hlo]; exact pkE_le _ _ _
 have sl : ∀ k, (st k).length ≤ k := by intro k; rw [hst]; exact pkE_le _ _ _
 rw [← hlo, ← hst]
 have L0 := hide l0
 have S0 := hide s0
 have LS := hide ls
 have SS := hide ss
 have LL := hide ll
 have SL := hide sl
 have EL := hide el
 clear hlo hst l0 s0 ls ss ll sl el
 obtain ⟨rr, hr⟩ : ∃ rr : Bool, rr = decide ((lo 5).length = 0 ∧ (st 5).length = 0) := ⟨_, rfl⟩
 rw [← hr]
 have HR := hide hr
 clear hr
 obtain ⟨c0, c1, c2⟩ := (A0.out.atBox 1 rfl).c3
 go_enter Tryz.func15, Tryz.ntmps15
 go_wp2_with fail
 refine (C1.out _ (RP.out.below A0.out.below) (RH.out.below A0.out.below) (RB.out.below A0.out.below)).mono ?_
 rintro e w1 ⟨rfl, q⟩
 have A1 := hide (A0.out.step q)
 clear q A0 c0 c1 c2
 obtain ⟨c0, c1, c2⟩ := (A1.out.atBox 1 rfl).c3
 go_wp2_with fail
 refine (C2.out _ _ _ _ _).mono ?_
 rintro e w2 ⟨rfl, q⟩
 have A2 := hide (A1.out.step q)
 clear q A1 c0 c1 c2
 obtain ⟨c0, c1, c2⟩ := (A2.out.atBox 1 rfl).c3
 go_wp2_with fail
 refine (C3.out _ (RP.out.below A2.out.below) (RH.out.below A2.out.below) (RB.out.below A2.out.below)).mono ?_
 rintro e w3 ⟨vm, ve, vss, rfl, sn, q⟩
 have A3 := hide (A2.out.add q (TInts.st ve es) ⟨sn.ep, sn.te⟩)
 have RE := hide (Own.rd sn.ep)
 clear q A2 c0 c1 c2 sn
 go_wp2_with fail
 refine (C4.out _ _ RE.out).mono ?_
 rintro e w4 ⟨rfl, rfl⟩
 obtain ⟨ae, ce, hve, _⟩ := RE.out
 rw [EL.out] at hve
 subst hve
 clear RE
 obtain ⟨gh, hgh⟩ : ∃ gh, gh = w3.heap.size := ⟨_, rfl⟩
 have A4 : Hid (Hand w (w3.alloc (.cells #[.slice none 0 0, .slice none 0 0, .bool false] 36)) [TTwo (.slice none 0 0) (.slice none 0 0) [] [], TBox gh #[.slice none 0 0, .slice none 0 0, .bool false] 36, TInts (.slice ae 5 ce) es, TBox (w.heap.size + 1) #[.slice none 0 0, .slice none 0 0, .bool false] 36, TBox w.heap.size #[.slice ap P.length cp, .slice ah H.length ch, .slice ab B.length cb] 26]) := by
  show Hand _ _ _
  rw [hgh]
  exact (A3.out.box #[.slice none 0 0, .slice none 0 0, .bool false] 36).add (Below.refl _ _) (TTwo.st (.slice none 0 0) (.slice none 0 0) [] []) (Two.nil _ _ _)
 have HGH := hide hgh
 clear hgh
 go_wp2
 rw [← HGH.out]
 go_loopw [12, 13, 35, 40, 49] (fun _ _ vi _ _ wr => ∃ (k : Nat) (vl vs : Value), k ≤ 5 ∧ vi = .int .i64 k ∧ Hand w wr [TTwo vl vs (lo k) (st k), TBox gh #[vl, vs, .bool false] 36, TInts (.slice ae 5 ce) es, TBox (w.heap.size + 1) #[.slice none 0 0, .slice none 0 0, .bool false] 36, TBox w.heap.size #[.slice ap P.length cp, .slice ah H.length ch, .slice ab B.length cb] 26]) (fun _ _ vi _ _ _ => 5 - (intOf vi).toNat)
 case atStart =>
  refine ⟨0, .slice none 0 0, .slice none 0 0, Nat.zero_le _, rfl, ?_⟩
  rw [L0.out, S0.out]
  exact A4.out
 case round =>
  clear A4
  obtain ⟨k, vl, vs, hk, rfl, hH⟩ := hrel
  have AH := hide hH
  obtain ⟨zl, zh, tw⟩ := hH.get 0 rfl
  obtain ⟨al, cl, rfl⟩ := row_slice tw.a
  obtain ⟨asx, csx, rfl⟩ := row_slice tw.b
  clear tw hH zl zh
  have l1 := LL.out k
  have s1 := SL.out k
  by_cases hlt : k < 5
  ·have hlt' : (k : Int) < 5 := by omega
   obtain ⟨y1, y2, ⟨oe, oe2⟩⟩ := AH.out.get 2 rfl
   obtain ⟨a', c', e', _, _, h3⟩ := Own.rd oe
   simp only [Value.slice.injEq] at e'
   obtain ⟨rfl, e5, rfl⟩ := e'
   clear e5
   rcases h3 with h3 | ⟨b', off, rfl, hbs, hc⟩
   ·have := EL.out
    rw [h3] at this
    simp at this
   have hck := hc k (by rw [EL.out]; exact hlt)
   have E1 := hide (LS.out k)
   have E2 := hide (SS.out k)
   generalize es.getD k 0 = E at hck E1 E2
   clear hc oe oe2 y1 y2 hbs
   by_cases h0 : E < 0
   ·have e1 : Hid (lo (k + 1) = lo k ++ [(k : Int)]) := by show _ = _; rw [E1.out, if_pos h0]
    have e2 : Hid (st (k + 1) = st k) := by show _ = _; rw [E2.out, if_neg (fun h => by omega)]
    clear E1 E2
    have A1 := hide (AH.out.step (below_box wr (.cells #[.int .i64 (k : Int)] 3)))
    obtain ⟨b0, b1, b2⟩ := (AH.out.atBox 1 rfl).c3
    have hcn : (wr.alloc (.cells #[.int .i64 (k : Int)] 3)).cell? ⟨wr.heap.size, 0, none⟩ = some (.int .i64 (k : Int)) := (BoxAt.new wr #[.int .i64 (k : Int)] 3).cell 0
    obtain ⟨zl, zh, tw, t1, t2, t3, put⟩ := A1.out.openTop
    have TW := hide tw
    have PUT := hide put
    clear tw put
    go_wp2_with (at_builtin; refine wpList_append_int1 rfl _ _ rfl zl _ (lo k).length (lo k) k rfl TW.out.a wr.heap.size rfl hcn (by omega) (by omega) ?_)
    intro g2 cap2 w2 o2 p2 q2 r2
    obtain ⟨tw2, ch2⟩ := TW.out.grow t2 o2 rfl p2 (by simpa using q2) r2
    have A2 := hide (PUT.out w2 (TTwo _ _ _ _) (TTwo.st _ _ _ _) tw2 ch2)
    have A3 := hide (A2.out.set3 1 rfl 0 (.slice (some ⟨g2, 0, none⟩) ((lo k).length + 1) cap2))
    obtain ⟨d0, d1, d2⟩ := (A2.out.atBox 1 rfl).c3
    have e0 := (A2.out.atBox 1 rfl).frozen 0
    clear o2 p2 q2 r2 tw2 ch2 TW PUT hcn A1 AH b0 b1 b2 A2
    go_wp2
    go_roundw
    case rel =>
     refine ⟨k + 1, .slice (some ⟨g2, 0, none⟩) ((lo k).length + 1) cap2, .slice asx (st k).length csx, by omega, by go_num, ?_⟩
     rw [e1.out, e2.out]
     have := A3.out
     simpa using this
    case measure => simp [intOf]; omega
   ·have e1 : Hid (lo (k + 1) = lo k) := by show _ = _; rw [E1.out, if_neg h0]
    by_cases hE : E = rt
    ·have e2 : Hid (st (k + 1) = st k) := by show _ = _; rw [E2.out, if_neg (fun h => h.2 hE)]
     clear E1 E2
     subst hE
     go_wp2
     go_roundw
     case rel =>
      refine ⟨k + 1, .slice al (lo k).length cl, .slice asx (st k).length csx, by omega, by go_num, ?_⟩
      rw [e1.out, e2.out]
      exact AH.out
     case measure => simp [intOf]; omega
    ·have e2 : Hid (st (k + 1) = st k ++ [(k : Int)]) := by show _ = _; rw [E2.out, if_pos ⟨by omega, hE⟩]
     have hE' : (E == rt) = false := by simpa using hE
     have hE2 : (E != rt) = true := by simpa using hE
     clear E1 E2
     have A1 := hide (AH.out.step (below_box wr (.cells #[.int .i64 (k : Int)] 3)))
     obtain ⟨b0, b1, b2⟩ := (AH.out.atBox 1 rfl).c3
     have hcn : (wr.alloc (.cells #[.int .i64 (k : Int)] 3)).cell? ⟨wr.heap.size, 0, none⟩ = some (.int .i64 (k : Int)) := (BoxAt.new wr #[.int .i64 (k : Int)] 3).cell 0
     obtain ⟨zl, zh, tw, t1, t2, t3, put⟩ := A1.out.openTop
     have TW := hide tw
     have PUT := hide put
     clear tw put
     go_wp2_with (at_builtin; refine wpList_append_int1 rfl _ _ rfl zl _ (st k).length (st k) k rfl TW.out.b wr.heap.size rfl hcn (by omega) (by omega) ?_)
     intro g2 cap2 w2 o2 p2 q2 r2
     obtain ⟨tw2, ch2⟩ := TW.out.swap.grow t2 o2 rfl p2 (by simpa using q2) r2
     have A2 := hide (PUT.out w2 (TTwo _ _ _ _) (TTwo.st _ _ _ _) tw2.swap ch2)
     have A3 := hide (A2.out.set3 1 rfl 1 (.slice (some ⟨g2, 0, none⟩) ((st k).length + 1) cap2))
     obtain ⟨d0, d1, d2⟩ := (A2.out.atBox 1 rfl).c3
     have e0 := (A2.out.atBox 1 rfl).frozen 1
     clear o2 p2 q2 r2 tw2 ch2 TW PUT hcn A1 AH b0 b1 b2 A2
     go_wp2
     go_roundw
     case rel =>
      refine ⟨k + 1, .slice al (lo k).length cl, .slice (some ⟨g2, 0, none⟩) ((st k).length + 1) cap2, by omega, by go_num, ?_⟩
      rw [e1.out, e2.out]
      have := A3.out
      simpa using this
     case measure => simp [intOf]; omega
  ·obtain rfl : k = 5 := by omega
   obtain ⟨b0, b1, b2⟩ := (AH.out.atBox 1 rfl).c3
   have f2 := (AH.out.atBox 1 rfl).frozen 2
   have A1 := hide ((AH.out.set3 1 rfl 2 (.bool rr)).put3 3 rfl (.slice al (lo 5).length cl) (.slice asx (st 5).length csx) (.bool rr))
   obtain ⟨x0, x1, x2⟩ := ((AH.out.set3 1 rfl 2 (.bool rr)).atBox 1 rfl).c3
   obtain ⟨d0, d1, d2⟩ := ((AH.out.set3 1 rfl 2 (.bool rr)).atBox 3 rfl).c3
   have g0 := ((AH.out.set3 1 rfl 2 (.bool rr)).atBox 3 rfl).frozen 0
   have g1 := ((AH.out.set3 1 rfl 2 (.bool rr)).atBox 3 rfl).frozen 1
   have g2 := ((AH.out.set3 1 rfl 2 (.bool rr)).atBox 3 rfl).frozen 2
   generalize hnl : (lo 5).length = nl at *
   generalize hns : (st 5).length = ns at *
   have HNL := hide hnl
   have HNS := hide hns
   clear hnl hns
   have fin : Hid (∀ W, W = (((wr.setCell ⟨gh, 2, none⟩ (.bool rr)).setCell ⟨w.heap.size + 1, 0, none⟩ (.slice al nl cl)).setCell ⟨w.heap.size + 1, 1, none⟩ (.slice asx ns csx)).setCell ⟨w.heap.size + 1, 2, none⟩ (.bool rr) → BoxAt W (w.heap.size + 1) #[.slice al nl cl, .slice asx ns csx, .bool rr] 36 ∧ Two W w.heap.size W.heap.size (.slice al nl cl) (.slice asx ns csx) (lo 5) (st 5) ∧ Below w.heap.size w W) := by
    rintro W rfl
    refine ⟨A1.out.atBox 3 rfl, ?_, A1.out.below⟩
    obtain ⟨z1, z2, tt, z3, z4, _⟩ := A1.out.open 0 rfl
    exact Two.mono tt z3 z4
   by_cases h1 : nl = 0 ∧ ns = 0
   ·obtain ⟨rfl, rfl⟩ := h1
    have er : rr = true := by rw [HR.out]; exact decide_eq_true ⟨rfl, rfl⟩
    subst er
    go_wp2
    obtain ⟨y1, y2, y3⟩ := fin.out _ rfl
    exact bodyPost_ret (res_hl2 rfl _ _ (w.heap.size + 1) _ _ _ (0, 0) rfl y1) rfl ⟨_, _, rfl, y2, y3⟩
   ·have er : rr = false := by rw [HR.out]; exact decide_eq_false h1
    subst er
    have h1' : ¬ (nl : Int) + (ns : Int) = 0 := by omega
    have h1'' : (((nl : Int) + (ns : Int)) == 0) = false := by simpa using h1'
    go_wp2
    obtain ⟨y1, y2, y3⟩ := fin.out _ rfl
    exact bodyPost_ret (res_hl2 rfl _ _ (w.heap.size + 1) _ _ _ (0, 0) rfl y1) rfl ⟨_, _, rfl, y2, y3⟩
open Gf (ci nat)
def epB (r : Int) (bs : List Bool) : List Int := bs.map fun b => if b = true then -1 else r
theorem five_epochs (r : Int) (hr : 0 ≤ r) (b0 b1 b2 b3 b4 : Bool) (hc : b0.toNat + b1.toNat + b2.toNat + b3.toNat + b4.toNat ≤ 2) :
    rtE (epB r [b0, b1, b2, b3, b4]) 5 = r ∧ (othE (epB r [b0, b1, b2, b3, b4]) r 5).length = b0.toNat + b1.toNat + b2.toNat + b3.toNat + b4.toNat ∧
    (losE (epB r [b0, b1, b2, b3, b4]) 5).length = b0.toNat + b1.toNat + b2.toNat + b3.toNat + b4.toNat ∧ staE (epB r [b0, b1, b2, b3, b4]) r 5 = [] ∧
    (∀ k : Nat, k < 5 → (k : Int) ∉ othE (epB r [b0, b1, b2, b3, b4]) r 5 → ([b0, b1, b2, b3, b4] : List Bool).getD k false = false) := by
 have h1 : ¬ (-1 : Int) = r := by omega
 have h2 : ¬ r = -1 := by omega
 have h3 : max (-1) r = r := by omega
 have h4 : ¬ r < 0 := by omega
 have hk : ∀ k, k < 5 → k = 0 ∨ k = 1 ∨ k = 2 ∨ k = 3 ∨ k = 4 := fun k h => by omega
 revert hc
 cases b0 <;> cases b1 <;> cases b2 <;> cases b3 <;> cases b4 <;> intro hc <;> first
  | (exfalso; revert hc; decide)
  | (refine ⟨by simp [epB, rtE, cntE, h1, h2, h3], by simp [epB, othE, pkE, isE, h1, h2, hr], by simp [epB, losE, pkE, h4], by simp [epB, staE, pkE, h1, h2, h4], ?_⟩
     intro k hk5 hn
     rcases hk k hk5 with rfl | rfl | rfl | rfl | rfl <;> first | rfl | (exfalso; revert hn; simp [epB, othE, pkE, isE, h1, h2, hr]))
theorem five_list {α : Type} (xs : List α) (d : α) (h : xs.length = 5) : xs = [xs.getD 0 d, xs.getD 1 d, xs.getD 2 d, xs.getD 3 d, xs.getD 4 d] := by
 match xs, h with
 | [a, b, c, e, f], _ => rfl
theorem st_read {xs : List Pc} {r : Int} {S : ByteArray} (hl : xs.length = 5) (hok : ∀ k, okP (xs.getD k none)) (hr : 0 ≤ r) (hS : S.size ≤ 47) (g : List Bool) (hg : g.length = 5) (hc : (g.getD 0 false).toNat + (g.getD 1 false).toNat + (g.getD 2 false).toNat + (g.getD 3 false).toNat + (g.getD 4 false).toNat ≤ 2)
    (hx : ∀ k, k < 5 → xs.getD k none = if g.getD k false = true then none else some (r, ofN ((pcN S).getD k []))) :
    dcOk xs ∧ dcT true xs = S ∧ (rsOth true xs).length = (g.getD 0 false).toNat + (g.getD 1 false).toNat + (g.getD 2 false).toNat + (g.getD 3 false).toNat + (g.getD 4 false).toNat ∧
    (losE (xs.map epo) 5).length = (g.getD 0 false).toNat + (g.getD 1 false).toNat + (g.getD 2 false).toNat + (g.getD 3 false).toNat + (g.getD 4 false).toNat ∧ staE (xs.map epo) (rtE (xs.map epo) 5) 5 = [] := by
 have hes : xs.map epo = epB r [g.getD 0 false, g.getD 1 false, g.getD 2 false, g.getD 3 false, g.getD 4 false] := by
  rw [five_list xs none hl]
  simp only [List.map_cons, List.map_nil, epB]
  have e : ∀ k, k < 5 → epo (xs.getD k none) = if g.getD k false = true then -1 else r := by
   intro k hk
   rw [hx k hk]
   split <;> rfl
  rw [e 0 (by omega), e 1 (by omega), e 2 (by omega), e 3 (by omega), e 4 (by omega)]
 obtain ⟨f1, f2, f3, f4, f5⟩ := five_epochs r hr _ _ _ _ _ hc
 rw [← hes] at f1 f2 f3 f4 f5
 have hrt : rtX xs = r := f1
 have hD := (dc_yes hl hok (by rw [hrt]; exact hr)).2
 rw [hrt] at hD
 have hdc : dcM xs = mulM (codeM 3 2) (datM S) := by
  unfold dcM
  rw [f1]
  refine dec_code hD (datM_ok hS) (datM_length S) (by rw [datM_get S 0 (by omega), Gf.ci_length, rowN_length hS 0 (by omega)]) ?_
  intro k hk hn
  have hb := f5 k (by omega) hn
  rw [bdC_get xs k (by omega), hx k (by omega)]
  have hb' : g.getD k false = false := by
   have hk5 : k = 0 ∨ k = 1 ∨ k = 2 ∨ k = 3 ∨ k = 4 := by omega
   rcases hk5 with rfl | rfl | rfl | rfl | rfl <;> exact hb
  rw [hb', if_neg (by simp)]
  have hp := pcN_ok hS k (by omega)
  show ci (bs (ofN ((pcN S).getD k []))) = _
  rw [bs_ofN hp.2]
  obtain ⟨X, e1, e2, e3⟩ := pcN_row hS k (by omega)
  rw [pcN_get k (by omega), e1, nat_ci']
 obtain ⟨_, k2, k3⟩ := pf_back hS
 refine ⟨⟨by rw [hrt]; exact hr, by rw [hdc]; exact k2⟩, ?_, ?_, f3, by rw [f1]; exact f4⟩
 ·show tfT (dcM xs) = S
  rw [hdc]
  exact k3
 ·show (othE (xs.map epo) (rtX xs) 5).length = _
  rw [hrt]
  exact f2
theorem set_here {α : Type} (l : List α) (x : Nat) (v d : α) (h : x < l.length) : (l.set x v).getD x d = v := by
 simp [qg, h]
theorem set_there {α : Type} (l : List α) (x y : Nat) (v d : α) (h : ¬ x = y) : (l.set x v).getD y d = l.getD y d := by
 simp [qg, h]
theorem gk_bad {P H : List ByteArray} {B : List Bool} (gk : gkP P H B) (x : Nat) (hx : x < P.length) : gkP P (H.set x ⟨#[]⟩) (B.set x true) := by
 obtain ⟨g1, g2, g3, g4, g5, g6⟩ := gk
 refine ⟨g1, by rw [List.length_set, g2], by rw [List.length_set, g3], g4, ?_, ?_⟩
 ·intro i hi
  by_cases e : x = i
  ·subst e
   rw [set_here _ _ _ _ (by omega)]
   decide
  ·rw [set_there _ _ _ _ _ e]
   exact g5 i hi
 ·intro i hi hb
  by_cases e : x = i
  ·subst e
   rw [set_here _ _ _ _ (by omega)]
  ·rw [set_there _ _ _ _ _ e] at hb ⊢
   exact g6 i hi hb
theorem ws_facts {P H : List ByteArray} {B : List Bool} {A E : Int} {S : ByteArray} (h : wsOk P H B A E S) :
    gkP P (wsH H A E S) B ∧ (0 ≤ E ∧ E ≤ 60000) ∧ S.size ≤ 47 ∧ (0 ≤ A ∧ A.toNat + 5 ≤ P.length) ∧
    ∀ k, k < 5 → (wsH H A E S).getD (A.toNat + k) ⟨#[]⟩ = scT (A.toNat + k) E ((pcN S).getD k []) ∧ B.getD (A.toNat + k) false = false := by
 obtain ⟨hS, ⟨gk, f1, f2⟩, hw⟩ := h
 have hE := (hw 0 (by omega)).1
 have ha : A.toNat + 5 ≤ P.length := by omega
 obtain ⟨g1, g2, g3, g4, g5, g6⟩ := gk
 have hb : ∀ k, k < 5 → B.getD (A.toNat + k) false = false := fun k hk => by
  have := (hw k hk).2
  rw [ks5_get k hk] at this
  exact this
 have hhit : ∀ k, k < 5 → (wsH H A E S).getD (A.toNat + k) ⟨#[]⟩ = scT (A.toNat + k) E ((pcN S).getD k []) := fun k hk => by
  have := wrTo_hit H A.toNat E (pcN S) ks5 5 (A.toNat + k) (by omega) ⟨k, hk, by rw [ks5_get k hk]⟩
  rw [Nat.add_sub_cancel_left] at this
  exact this
 have hmiss : ∀ x, (∀ k, k < 5 → A.toNat + k ≠ x) → (wsH H A E S).getD x ⟨#[]⟩ = H.getD x ⟨#[]⟩ := fun x hx =>
  wrTo_miss H A.toNat E (pcN S) ks5 5 x (fun j hj => by rw [ks5_get j hj]; exact hx j hj)
 refine ⟨⟨g1, by unfold wsH; rw [wrTo_length, g2], g3, g4, ?_, ?_⟩, hE, hS, ⟨f1, ha⟩, fun k hk => ⟨hhit k hk, hb k hk⟩⟩
 ·intro i hi
  by_cases e : ∃ k, k < 5 ∧ A.toNat + k = i
  ·obtain ⟨k, hk, rfl⟩ := e
   rw [hhit k hk]
   have := (sc_good (A := A.toNat + k) (E := E) (row := (pcN S).getD k []) (by have := g1.2; omega) hE (pcN_ok hS k hk).1).2
   omega
  ·rw [hmiss i (fun k hk e' => e ⟨k, hk, e'⟩)]
   exact g5 i hi
 ·intro i hi hbi
  by_cases e : ∃ k, k < 5 ∧ A.toNat + k = i
  ·obtain ⟨k, hk, rfl⟩ := e
   rw [hb k hk] at hbi
   simp at hbi
  ·rw [hmiss i (fun k hk e' => e ⟨k, hk, e'⟩)]
   exact g6 i hi hbi
theorem st_seen {P H : List ByteArray} {B : List Bool} {A E : Int} {S : ByteArray} (hE : 0 ≤ E ∧ E ≤ 60000) (hS : S.size ≤ 47) (hA : 0 ≤ A) (n24 : P.length ≤ 24) (ha : A.toNat + 5 ≤ P.length) (g : List Bool)
    (hb : ∀ k, k < 5 → B.getD (A.toNat + k) false = g.getD k false) (hH : ∀ k, k < 5 → g.getD k false = false → H.getD (A.toNat + k) ⟨#[]⟩ = scT (A.toNat + k) E ((pcN S).getD k [])) :
    ∀ k, k < 5 → (rsX P H B E A).getD k none = if g.getD k false = true then none else some (E, ofN ((pcN S).getD k [])) := by
 intro k hk
 unfold rsX
 rw [skL_get _ _ _ _ _ _ hk]
 have h1 := hb k hk
 by_cases e : g.getD k false = true
 ·rw [if_pos e]
  unfold sk
  rw [if_pos (by rw [h1]; exact e)]
 ·have e' : g.getD k false = false := by
    cases h : g.getD k false with
    | true => exact absurd h e
    | false => rfl
  rw [if_neg e]
  exact sk_sc (by rw [h1]; exact e') (by omega) hE (Int.le_refl _) (pcN_ok hS k hk).1 (hH k hk e')
theorem st_all {P H : List ByteArray} {B : List Bool} {A E : Int} {S : ByteArray} (h : wsOk P H B A E S) (i j : Nat) (hi : i < 5) (hj : j < 5) (hij : ¬ i = j) :
    (((gkP P (wsH H A E S) B ∧ ftP P A) ∧ dcOk (rsX P (wsH H A E S) B E A)) ∧ dcT true (rsX P (wsH H A E S) B E A) = S ∧ (rsOth true (rsX P (wsH H A E S) B E A)).length = 0 ∧ hlW true P (wsH H A E S) B E A = true) ∧
    stOk P (wsH H A E S) B P.length 5 (A + (i : Int)) ⟨#[]⟩ [] ∧
    (gkP P ((wsH H A E S).set (A.toNat + i) ⟨#[]⟩) (B.set (A.toNat + i) true) ∧ stOk P ((wsH H A E S).set (A.toNat + i) ⟨#[]⟩) (B.set (A.toNat + i) true) P.length 5 (A + (j : Int)) ⟨#[]⟩ []) ∧
    (((gkP P (((wsH H A E S).set (A.toNat + i) ⟨#[]⟩).set (A.toNat + j) ⟨#[]⟩) ((B.set (A.toNat + i) true).set (A.toNat + j) true) ∧ ftP P A) ∧
     dcOk (rsX P (((wsH H A E S).set (A.toNat + i) ⟨#[]⟩).set (A.toNat + j) ⟨#[]⟩) ((B.set (A.toNat + i) true).set (A.toNat + j) true) E A)) ∧
     dcT true (rsX P (((wsH H A E S).set (A.toNat + i) ⟨#[]⟩).set (A.toNat + j) ⟨#[]⟩) ((B.set (A.toNat + i) true).set (A.toNat + j) true) E A) = S ∧
     (rsOth true (rsX P (((wsH H A E S).set (A.toNat + i) ⟨#[]⟩).set (A.toNat + j) ⟨#[]⟩) ((B.set (A.toNat + i) true).set (A.toNat + j) true) E A)).length = 2) := by
 have hft := h.2.1.2
 obtain ⟨gk, hE, hS, ⟨hA, ha⟩, hk⟩ := ws_facts h
 have n24 := gk.1.2
 have hBl := gk.2.2.1
 have hHl := gk.2.1
 generalize wsH H A E S = H' at *
 have g1 := gk_bad gk (A.toNat + i) (by omega)
 have g2 := gk_bad g1 (A.toNat + j) (by omega)
 have r0 := st_read (S := S) (rsX_length P H' B E A) (rsX_ok P H' B E A) hE.1 hS [false, false, false, false, false] rfl (by decide)
  (st_seen hE hS hA n24 ha _ (fun k hk5 => by rw [(hk k hk5).2]; have : k = 0 ∨ k = 1 ∨ k = 2 ∨ k = 3 ∨ k = 4 := by omega
                                              rcases this with rfl | rfl | rfl | rfl | rfl <;> rfl) (fun k hk5 _ => (hk k hk5).1))
 have hgd : ∀ k, k < 5 → ((List.replicate 5 false).set i true |>.set j true).getD k false = decide (k = i ∨ k = j) := by
  intro k hk5
  by_cases e : j = k
  ·subst e
   rw [set_here _ _ _ _ (by simp; omega)]
   simp
  ·rw [set_there _ _ _ _ _ e]
   by_cases e2 : i = k
   ·subst e2
    rw [set_here _ _ _ _ (by simp; omega)]
    simp
   ·rw [set_there _ _ _ _ _ e2]
    have : ¬ (k = i ∨ k = j) := by omega
    rw [decide_eq_false this]
    have hk6 : k = 0 ∨ k = 1 ∨ k = 2 ∨ k = 3 ∨ k = 4 := by omega
    rcases hk6 with h9 | h9 | h9 | h9 | h9 <;> rw [h9] <;> rfl
 have hcnt : (((List.replicate 5 false).set i true |>.set j true).getD 0 false).toNat + (((List.replicate 5 false).set i true |>.set j true).getD 1 false).toNat + (((List.replicate 5 false).set i true |>.set j true).getD 2 false).toNat + (((List.replicate 5 false).set i true |>.set j true).getD 3 false).toNat + (((List.replicate 5 false).set i true |>.set j true).getD 4 false).toNat = 2 := by
  have hi5 : i = 0 ∨ i = 1 ∨ i = 2 ∨ i = 3 ∨ i = 4 := by omega
  have hj5 : j = 0 ∨ j = 1 ∨ j = 2 ∨ j = 3 ∨ j = 4 := by omega
  rcases hi5 with rfl | rfl | rfl | rfl | rfl <;> rcases hj5 with rfl | rfl | rfl | rfl | rfl <;> first | rfl | (exfalso; exact hij rfl)
 have r2 := st_read (S := S) (rsX_length P ((H'.set (A.toNat + i) ⟨#[]⟩).set (A.toNat + j) ⟨#[]⟩) ((B.set (A.toNat + i) true).set (A.toNat + j) true) E A) (rsX_ok _ _ _ _ _) hE.1 hS ((List.replicate 5 false).set i true |>.set j true) (by simp) (by omega)
  (st_seen hE hS hA n24 ha _ (by
   intro k hk5
   rw [hgd k hk5]
   by_cases e : A.toNat + j = A.toNat + k
   ·rw [← e, set_here _ _ _ _ (by simp; omega)]
    have : k = i ∨ k = j := by omega
    simp [this]
   ·rw [set_there _ _ _ _ _ e]
    by_cases e2 : A.toNat + i = A.toNat + k
    ·rw [← e2, set_here _ _ _ _ (by omega)]
     have : k = i ∨ k = j := by omega
     simp [this]
    ·rw [set_there _ _ _ _ _ e2, (hk k hk5).2]
     have : ¬ (k = i ∨ k = j) := by omega
     simp [this]) (by
   intro k hk5 hg
   rw [hgd k hk5] at hg
   have : ¬ (k = i ∨ k = j) := by simpa using hg
   rw [set_there _ _ _ _ _ (by omega), set_there _ _ _ _ _ (by omega)]
   exact (hk k hk5).1))
 rw [hcnt] at r2
 refine ⟨⟨⟨⟨gk, hft⟩, r0.1⟩, r0.2.1, r0.2.2.1, ?_⟩, ?_, ⟨g1, ?_⟩, ⟨⟨g2, hft⟩, r2.1⟩, r2.2.1, r2.2.2.1⟩
 ·unfold hlW hlX hlY esS
  have e1 : (losE ((skL P H' B E A.toNat).map epo) 5).length = 0 := r0.2.2.2.1
  have e2 : staE ((skL P H' B E A.toNat).map epo) (rtE ((skL P H' B E A.toNat).map epo) 5) 5 = [] := r0.2.2.2.2
  simp [e1, e2]
 ·exact .inr (.inr (.inr (.inr (.inl ⟨rfl, rfl, rfl, by omega, by omega⟩))))
 ·exact .inr (.inr (.inr (.inr (.inl ⟨rfl, rfl, rfl, by omega, by omega⟩))))
theorem oth_split (es : List Int) (r : Int) : ∀ n, (othE es r n).length = (losE es n).length + (staE es r n).length
 | 0 => rfl
 | n + 1 => by
  have ih := oth_split es r n
  have step : ∀ f : Int → Bool, (pkE f es (n + 1)).length = (pkE f es n).length + (f (es.getD n 0)).toNat := by
   intro f
   rw [pkE]
   cases h : f (es.getD n 0) <;> simp
  unfold othE losE staE at ih ⊢
  rw [step, step, step]
  have hb : (!isE r (es.getD n 0)).toNat = (decide (es.getD n 0 < 0)).toNat + (decide (0 ≤ es.getD n 0 ∧ ¬ es.getD n 0 = r)).toNat := by
   generalize es.getD n 0 = x
   unfold isE
   by_cases h1 : x < 0
   ·rw [decide_eq_false (show ¬ (x = r ∧ 0 ≤ x) by omega), decide_eq_true h1, decide_eq_false (show ¬ (0 ≤ x ∧ ¬ x = r) by omega)]
    rfl
   ·by_cases h2 : x = r
    ·rw [decide_eq_true (show x = r ∧ 0 ≤ x from ⟨h2, by omega⟩), decide_eq_false h1, decide_eq_false (show ¬ (0 ≤ x ∧ ¬ x = r) by omega)]
     rfl
    ·rw [decide_eq_false (show ¬ (x = r ∧ 0 ≤ x) by omega), decide_eq_false h1, decide_eq_true (show 0 ≤ x ∧ ¬ x = r from ⟨by omega, h2⟩)]
     rfl
  omega
open Gf (ci nat)
open Gf (ci nat)
theorem HeldG.low {W w w' : World} {a b : Nat} (hc : Chg a b w w') (hb : b ≤ W.heap.size) : ∀ {top : Nat} {L : List Tg}, HeldG W w top L → HeldG W w' top L
 | _, [], h => h
 | _, _ :: _, ⟨lo, hi, h0, h1, h2, h⟩ => ⟨lo, hi, ⟨h0.1, h0.1 _ _ _ _ _ _ h0.2 hc (.inr (Nat.le_trans hb h.base))⟩, h1, h2, HeldG.low hc hb h⟩
structure Guest (lo hi : Nat) (W w : World) (t : Tg) (L : List Tg) : Prop where
 base : hi ≤ W.heap.size
 chg : Chg lo hi W w
 st : t.st
 it : t lo hi w
 held : HeldG W w w.heap.size L
theorem Hand.guest {lo hi : Nat} {W w : World} {L : List Tg} {t : Tg} (h : Hand W w L) (hb : hi ≤ W.heap.size) (hs : t.st) (ht : t lo hi W) : Guest lo hi W w t L :=
 ⟨hb, Chg.ofBelow h.below, hs, hs _ _ _ _ _ _ ht (Chg.ofBelow (lo := W.heap.size) (hi := W.heap.size) h.below) (.inl hb), h.held⟩
theorem Guest.step {lo hi : Nat} {W w w' : World} {t : Tg} {L : List Tg} (G : Guest lo hi W w t L) (hb : Below w.heap.size w w') : Guest lo hi W w' t L :=
 ⟨G.base, G.chg.trans (Chg.ofBelow hb), G.st, G.st _ _ _ _ _ _ G.it (Chg.ofBelow (lo := w.heap.size) (hi := w.heap.size) hb) (.inl (Nat.le_trans G.base G.chg.size)), (HeldG.chg (a := w.heap.size) (b := w.heap.size) (Chg.ofBelow hb) G.held (Nat.le_refl _)).up hb.size⟩
theorem Guest.box {lo hi : Nat} {W w : World} {t : Tg} {L : List Tg} (G : Guest lo hi W w t L) (cs : Array Value) (T : TypeId) : Guest lo hi W (w.alloc (.cells cs T)) t (TBox w.heap.size cs T :: L) :=
 ⟨G.base, (G.step (below_box w _)).chg, G.st, (G.step (below_box w _)).it, w.heap.size, (w.alloc (.cells cs T)).heap.size, ⟨TBox.st _ _ _, Nat.le_refl _, by simp, BoxAt.new w cs T⟩, (below_box w (.cells cs T)).size, Nat.le_refl _, HeldG.chg (a := w.heap.size) (b := w.heap.size) (Chg.ofBelow (below_box w _)) G.held (Nat.le_refl _)⟩
theorem Guest.low {lo hi : Nat} {W w w' : World} {t t' : Tg} {L : List Tg} (G : Guest lo hi W w t L) (hs : t'.st) (ht : t' lo hi w') (hc : Chg lo hi w w') : Guest lo hi W w' t' L :=
 ⟨G.base, G.chg.trans hc, hs, ht, (HeldG.low hc G.base G.held).up hc.size⟩
theorem Guest.get {lo hi : Nat} {W w : World} {t u : Tg} {L : List Tg} (G : Guest lo hi W w t L) (i : Nat) (h : L[i]? = some u) : ∃ a b, u a b w := by
 obtain ⟨a, b, ok, _⟩ := HeldG.open G.held h
 exact ⟨a, b, ok⟩
theorem Guest.atBox {lo hi : Nat} {W w : World} {t : Tg} {L : List Tg} {g : Nat} {cs : Array Value} {T : TypeId} (G : Guest lo hi W w t L) (i : Nat) (h : L[i]? = some (TBox g cs T)) : BoxAt w g cs T := by
 obtain ⟨_, _, _, _, h⟩ := G.get i h
 exact h
end Go.Proofs.YthdbacihhmilbaaGreatDoor

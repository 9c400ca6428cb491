/-
  Bytes that a law holds, with what they are, and the number that is made of them (out of text WrdD, for seats that have no words). The contract says what it asks. What the law of stripes asks of the calls, told at once for its branches. Each contract says what it asks.
-/
import Derived.Test.YthdbacihhmilbaaGreatDoorStripesB26
import Derived.Test.YthdbacihhmilbaaGreatDoorStripesB38
import Derived.Test.YthdbacihhmilbaaGreatDoorStripesB40
import Derived.Test.YthdbacihhmilbaaGreatDoorStripesB30
import Derived.Test.YthdbacihhmilbaaGreatDoorStripesB41
import Derived.Test.YthdbacihhmilbaaGreatDoorStripesB44
import Derived.Test.YthdbacihhmilbaaGreatDoorStripesB0
set_option maxRecDepth 100000
set_option maxHeartbeats 800000
set_option linter.unusedVariables false
namespace Go.Proofs.YthdbacihhmilbaaGreatDoor
open Go.RowKit
open Gf (ci nat)
def RdBz (w : World) (a : Option Addr) (zs : List Nat) : Prop :=
 zs.length ≤ 281474976710656 ∧ Gf.AllLt zs ∧ (zs = [] ∨ ∃ b off, a = some ⟨b, off, none⟩ ∧ b < w.heap.size ∧ ∀ i, i < zs.length → w.cell? ⟨b, off + i, none⟩ = some (.int .u8 (zs.getD i 0 : Nat)))
theorem RdBz.below {w w' : World} {a : Option Addr} {zs : List Nat} (h : RdBz w a zs) (hb : Below w.heap.size w w') : RdBz w' a zs := by
 obtain ⟨h1, h2, h3⟩ := h
 refine ⟨h1, h2, ?_⟩
 rcases h3 with h3 | ⟨b, off, rfl, hlt, hc⟩
 ·exact .inl h3
 ·exact .inr ⟨b, off, rfl, Nat.lt_of_lt_of_le hlt hb.size, fun i hi => (hb.cell (p := ⟨b, off + i, none⟩) hlt).trans (hc i hi)⟩
theorem RdBz.rdb {w : World} {a : Option Addr} {zs : List Nat} (h : RdBz w a zs) (cap : Nat) : RdB w (.slice a zs.length cap) := ⟨a, cap, zs, rfl, h.1, h.2.1, h.2.2⟩
def nbTo (zs : List Nat) : Nat → Nat
 | 0 => 0
 | k + 1 => (31 * nbTo zs k + zs.getD k 0) % 1000003
theorem nbTo_lt (zs : List Nat) (k : Nat) : nbTo zs k < 1000003 := by
 cases k with
 | zero => show 0 < _; omega
 | succ k => rw [nbTo]; omega
theorem numberZ_calls (a : Option Addr) (cap : Nat) (zs : List Nat) (w : World) (h : RdBz w a zs) :
    Calls Tryz.prog 12 #[.slice a zs.length cap] w fun e w' => e = .returned (.int .i64 (nbTo zs zs.length : Nat)) ∧ w = w' := by
 obtain ⟨h1, h2, h3⟩ := h
 have H := hide h3
 clear h3
 go_enter Tryz.func12, Tryz.ntmps12
 go_wp2
 go_loop [3, 8] (fun vn vi => ∃ k n : Nat, k ≤ zs.length ∧ vi = .int .i64 k ∧ vn = .int .i64 n ∧ n = nbTo zs k) (fun _ vi => zs.length - (intOf vi).toNat)
 case atStart => exact ⟨0, 0, Nat.zero_le _, rfl, rfl, rfl⟩
 case round =>
  obtain ⟨k, n, hk, rfl, rfl, hn⟩ := hrel
  have n1 : n < 1000003 := by rw [hn]; exact nbTo_lt _ _
  have HN := hide hn
  clear hn
  by_cases hlt : k < zs.length
  ·rcases H.out with h3 | ⟨b, off, rfl, hbs, hc⟩
   ·subst h3; simp at hlt
   have hc1 := hc k hlt
   clear hc
   obtain ⟨z, hz⟩ : ∃ z, z = zs.getD k 0 := ⟨_, rfl⟩
   have hz256 : z < 256 := by rw [hz]; exact h2 k
   rw [← hz] at hc1
   have HZ := hide hz
   clear hz
   go_wp2
   go_round
   case rel => exact ⟨k + 1, (31 * n + z) % 1000003, by omega, by go_num, Gf.int_eq (by simp), by rw [nbTo, ← HN.out, ← HZ.out]⟩
   case measure => simp [intOf]; omega
  ·obtain rfl : k = zs.length := by omega
   go_wp2
   go_ret
   exact ⟨by rw [← HN.out]; rfl, rfl⟩
structure Dv (w : World) (g : Nat) (p h b : Value) (P H : List ByteArray) (B : List Bool) : Prop where
 rp : RdT w p P
 rh : RdT w h H
 rz : RdZ w b B
 bx : BoxAt w g #[p, h, b] 26
theorem Dv.below {w w' : World} {g : Nat} {p h b : Value} {P H : List ByteArray} {B : List Bool} (d : Dv w g p h b P H B) (hb : Below w.heap.size w w') : Dv w' g p h b P H B := ⟨d.rp.below hb, d.rh.below hb, d.rz.below hb, d.bx.below hb⟩
theorem Dv.made {w : World} {lo hi : Nat} {p h b : Value} {P H : List ByteArray} {B : List Bool} (d : DskV w lo hi p h b P H B) : Dv (w.alloc (.cells #[p, h, b] 26)) w.heap.size p h b P H B := by
 have d' := d.below (below_box w (.cells #[p, h, b] 26))
 exact ⟨d'.rp, d'.rh, d'.rb, BoxAt.new _ _ _⟩
theorem wf10 {A : Int} (h : -3 ≤ A ∧ A ≤ 11) : (Lit.int .i64 A).wf = true := by
 simp [Lit.wf, IntKind.min, IntKind.max, IntKind.signed, IntKind.bits]
 omega
structure Hv (w : World) (g : Nat) (u v : Value) (X Y : List Int) (y : Bool) : Prop where
 ru : Rd w u X
 rv : Rd w v Y
 bx : BoxAt w g #[u, v, .bool y] 36
theorem Hv.below {w w' : World} {g : Nat} {u v : Value} {X Y : List Int} {y : Bool} (d : Hv w g u v X Y y) (hb : Below w.heap.size w w') : Hv w' g u v X Y y := ⟨d.ru.below hb, d.rv.below hb, d.bx.below hb⟩
theorem Hv.made {w : World} {lo hi : Nat} {u v : Value} {X Y : List Int} {y : Bool} (d : Two w lo hi u v X Y) : Hv (w.alloc (.cells #[u, v, .bool y] 36)) w.heap.size u v X Y y := by
 have b := below_box w (.cells #[u, v, .bool y] 36)
 exact ⟨(Own.rd d.a).below b, (Own.rd d.b).below b, BoxAt.new _ _ _⟩
theorem Two.slQ {w : World} {lo hi : Nat} {u v : Value} {X Y : List Int} (d : Two w lo hi u v X Y) : ∃ a c a' c', u = .slice a X.length c ∧ v = .slice a' Y.length c' := by
 obtain ⟨a, c, e⟩ := row_slice d.a
 obtain ⟨a', c', e'⟩ := row_slice d.b
 exact ⟨a, c, a', c', e, e'⟩
theorem write_facts (P H : List ByteArray) (B : List Bool) (A E : Int) (S : ByteArray) (q : Nat) (hwf : (Lit.int .i64 A).wf = true) (hS : S.size ≤ 48) :
    ∃ (ok : Bool) (P1 H1 : List ByteArray) (B1 : List Bool),
    (∀ (p h b : Value) (w : World), Gf.Tab w → RdT w p P → RdT w h H → RdZ w b B → Calls Tryz.prog 6 #[.agg #[p, h, b], .int .i64 A, .int .i64 E, .string S] w fun e w' => ∃ p' h' b', e = .returned (.tuple #[.agg #[p', h', b'], .bool ok]) ∧ DskV w' w.heap.size w'.heap.size p' h' b' P1 H1 B1 ∧ Below w.heap.size w w') ∧
    (∀ (p h b : Value) (w : World), RdT w p P → RdT w h H → RdZ w b B → Calls Tryz.prog 7 #[.agg #[p, h, b], .int .i64 A, .int .i64 E, .string S] w fun e w' => ∃ p' h' b', e = .returned (.tuple #[.agg #[p', h', b'], .bool ok]) ∧ DskV w' w.heap.size w'.heap.size p' h' b' P1 H1 B1 ∧ Below w.heap.size w w') ∧
    (ok = true → ∃ (M0 M2 X Y : List Int) (Hs : Nat → List ByteArray) (Bs : Nat → List Bool), Hs 0 = H1 ∧ Bs 0 = B1 ∧ M0.length = 0 ∧ M2.length = 2 ∧
     (∀ (p h b : Value) (w : World), Gf.Tab w → RdT w p P1 → RdT w h H1 → RdZ w b B1 → Calls Tryz.prog 9 #[.agg #[p, h, b], .int .i64 A, .int .i64 E] w fun e w' => ∃ v', e = .returned (.tuple #[.string S, v', .bool true]) ∧ Own w' w.heap.size v' M0 ∧ Below w.heap.size w w') ∧
     (∀ (p h b : Value) (w : World), RdT w p P1 → RdT w h H1 → RdZ w b B1 → Calls Tryz.prog 10 #[.agg #[p, h, b], .int .i64 A, .int .i64 E] w fun e w' => ∃ vl vs, e = .returned (.tuple #[.agg #[vl, vs, .bool true], .bool true]) ∧ Two w' w.heap.size w'.heap.size vl vs X Y ∧ Below w.heap.size w w') ∧
     (∀ k : Nat, k < 2 → ∀ (p h b : Value) (w : World), RdT w p P1 → RdT w h (Hs k) → RdZ w b (Bs k) → Calls Tryz.prog 11 #[.agg #[p, h, b], .agg #[.int .i64 5, .int .i64 (A + (((q + 2 * k) % 5 : Nat) : Int)), .string ⟨#[]⟩, .slice none 0 0]] w fun e w' => ∃ p' h' b', e = .returned (.tuple #[.agg #[p', h', b'], .bool true]) ∧ DskV w' w.heap.size w'.heap.size p' h' b' P1 (Hs (k + 1)) (Bs (k + 1)) ∧ Below w.heap.size w w') ∧
     (∀ (p h b : Value) (w : World), Gf.Tab w → RdT w p P1 → RdT w h (Hs 2) → RdZ w b (Bs 2) → Calls Tryz.prog 9 #[.agg #[p, h, b], .int .i64 A, .int .i64 E] w fun e w' => ∃ v', e = .returned (.tuple #[.string S, v', .bool true]) ∧ Own w' w.heap.size v' M2 ∧ Below w.heap.size w w')) := by
 have hM : S.size ≤ maxLen := by unfold maxLen; omega
 obtain ⟨ok, hok⟩ := ws_bool P H B A E S
 refine ⟨ok, _, _, _, fun p h b w hT h1 h2 h3 => writeStripe_calls p h b P H B A E S ok w hT hok hwf hM h1 h2 h3, fun p h b w h1 h2 h3 => sWriteStripe_calls p h b P H B A E S ok w hok hwf hM h1 h2 h3, fun hk => ?_⟩
 subst hk
 have hw := hok.1 rfl
 obtain ⟨⟨r0, rt0, rl0, rw0⟩, s1, ⟨g1, s2⟩, ⟨r2, rt2, rl2⟩⟩ := st_all hw (q % 5) ((q + 2) % 5) (by omega) (by omega) (by omega)
 have hA : 0 ≤ A := (ws_facts hw).2.2.2.1.1
 have ha5 := (ws_facts hw).2.2.2.1.2
 refine ⟨_, _, hlX true P (wsH H A E S) B E A, hlY true P (wsH H A E S) B E A, fun k => match k with
     | 0 => wsH H A E S
     | 1 => (wsH H A E S).set (A.toNat + q % 5) ⟨#[]⟩
     | _ => ((wsH H A E S).set (A.toNat + q % 5) ⟨#[]⟩).set (A.toNat + (q + 2) % 5) ⟨#[]⟩, fun k => match k with
     | 0 => B
     | 1 => B.set (A.toNat + q % 5) true
     | _ => (B.set (A.toNat + q % 5) true).set (A.toNat + (q + 2) % 5) true, rfl, rfl, rl0, rl2, ?_, ?_, ?_, ?_⟩
 ·intro p h b w hT h1 h2 h3
  have := readStripe_calls p h b P (wsH H A E S) B A E true w hT ⟨fun _ => r0, fun _ => rfl⟩ hwf h1 h2 h3
  rw [rt0] at this
  exact this
 ·intro p h b w h1 h2 h3
  have := healthOf_calls p h b P (wsH H A E S) B A E true w ⟨fun _ => r0.1, fun _ => rfl⟩ hwf h1 h2 h3
  rw [rw0] at this
  exact this
 ·intro k hk p h b w h1 h2 h3
  have hk' : k = 0 ∨ k = 1 := by omega
  rcases hk' with rfl | rfl
  ·have := stepBad_calls p h b P (wsH H A E S) B (A.toNat + q % 5) w r0.1.1 (by omega) h1 h2 h3
   rw [show ((A.toNat + q % 5 : Nat) : Int) = A + ((q % 5 : Nat) : Int) by omega] at this
   exact this
  ·have := stepBad_calls p h b P ((wsH H A E S).set (A.toNat + q % 5) ⟨#[]⟩) (B.set (A.toNat + q % 5) true) (A.toNat + (q + 2) % 5) w g1 (by omega) h1 h2 h3
   rw [show ((A.toNat + (q + 2) % 5 : Nat) : Int) = A + (((q + 2) % 5 : Nat) : Int) by omega] at this
   exact this
 ·intro p h b w hT h1 h2 h3
  have := readStripe_calls p h b P _ _ A E true w hT ⟨fun _ => r2, fun _ => rfl⟩ hwf h1 h2 h3
  rw [rt2] at this
  exact this
theorem read_facts (P H : List ByteArray) (B : List Bool) (A L : Int) (hwf : (Lit.int .i64 A).wf = true) :
    ∃ (ok f W : Bool) (t : ByteArray) (M X Y : List Int),
    (∀ (p h b : Value) (w : World), Gf.Tab w → RdT w p P → RdT w h H → RdZ w b B → Calls Tryz.prog 9 #[.agg #[p, h, b], .int .i64 A, .int .i64 L] w fun e w' => ∃ v', e = .returned (.tuple #[.string t, v', .bool ok]) ∧ Own w' w.heap.size v' M ∧ Below w.heap.size w w') ∧
    (∀ (p h b : Value) (w : World), RdT w p P → RdT w h H → RdZ w b B → Calls Tryz.prog 14 #[.agg #[p, h, b], .int .i64 A, .int .i64 L] w fun e w' => ∃ v', e = .returned (.tuple #[.string t, v', .bool ok]) ∧ Own w' w.heap.size v' M ∧ Below w.heap.size w w') ∧
    (∀ (p h b : Value) (w : World), RdT w p P → RdT w h H → RdZ w b B → Calls Tryz.prog 10 #[.agg #[p, h, b], .int .i64 A, .int .i64 L] w fun e w' => ∃ vl vs, e = .returned (.tuple #[.agg #[vl, vs, .bool W], .bool f]) ∧ Two w' w.heap.size w'.heap.size vl vs X Y ∧ Below w.heap.size w w') ∧
    (∀ (p h b : Value) (w : World), RdT w p P → RdT w h H → RdZ w b B → Calls Tryz.prog 15 #[.agg #[p, h, b], .int .i64 A, .int .i64 L] w fun e w' => ∃ vl vs, e = .returned (.tuple #[.agg #[vl, vs, .bool W], .bool f]) ∧ Two w' w.heap.size w'.heap.size vl vs X Y ∧ Below w.heap.size w w') ∧
    (ok = true → f = true ∧ M.length = X.length + Y.length ∧ M.length ≤ 5 ∧ W = decide (M.length = 0)) := by
 obtain ⟨f, hf⟩ := ft_bool P H B A
 obtain ⟨ok, hok⟩ : ∃ ok : Bool, ok = true ↔ ((gkP P H B ∧ ftP P A) ∧ dcOk (rsX P H B L A)) := by
  by_cases h : (gkP P H B ∧ ftP P A) ∧ dcOk (rsX P H B L A)
  ·exact ⟨true, by simp [h]⟩
  ·exact ⟨false, by simp [h]⟩
 refine ⟨ok, f, _, _, _, _, _, fun p h b w hT h1 h2 h3 => readStripe_calls p h b P H B A L ok w hT hok hwf h1 h2 h3, fun p h b w h1 h2 h3 => sReadStripe_calls p h b P H B A L ok w hok h1 h2 h3, fun p h b w h1 h2 h3 => healthOf_calls p h b P H B A L f w hf hwf h1 h2 h3, fun p h b w h1 h2 h3 => sHealthOf_calls p h b P H B A L f w hf hwf h1 h2 h3, fun hk => ?_⟩
 subst hk
 have hfy : f = true := hf.2 (hok.1 rfl).1
 subst hfy
 have e : (rsOth true (rsX P H B L A)).length = (hlX true P H B L A).length + (hlY true P H B L A).length := by
  simp only [rsOth, hlX, hlY, if_true]
  exact oth_split _ _ 5
 refine ⟨rfl, e, rsOth_le _ _, ?_⟩
 unfold hlW
 rw [e, Bool.true_and]
 congr 1
 apply propext
 omega
end Go.Proofs.YthdbacihhmilbaaGreatDoor

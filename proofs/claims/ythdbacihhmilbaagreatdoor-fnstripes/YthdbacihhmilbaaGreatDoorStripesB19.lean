/-
  Pieces put together: the program's JoinBody and its model's, call by call. No condition but a bound on the texts' lengths. A piece as bytes, by the model: l8Text. The contract says what it asks.
-/
import Derived.Test.YthdbacihhmilbaaGreatDoorStripesB12
import Derived.Test.YthdbacihhmilbaaGreatDoorStripesB18
import Derived.Lib.AppendStr
import Derived.Test.YthdbacihhmilbaaGreatDoorStripesB17
import Derived.Test.YthdbacihhmilbaaGreatDoorStripesB16
import Derived.Test.YthdbacihhmilbaaGreatDoorStripesB14
import Derived.Deep.WholeRow
import Derived.ChangeKeysEq
import Derived.Test.YthdbacihhmilbaaGreatDoorStripesB0
set_option linter.unusedVariables false
set_option maxRecDepth 100000
set_option maxHeartbeats 3200000
set_option linter.unusedSimpArgs false
namespace Go.Proofs.YthdbacihhmilbaaGreatDoor
open Go.RowKit
abbrev gd (xs : List ByteArray) (i : Nat) : Prop := (1 ≤ (xs.getD i ⟨#[]⟩).size ∧ (xs.getD i ⟨#[]⟩).size ≤ 16) ∧ (i + 1 < xs.length → (xs.getD i ⟨#[]⟩).size = 16)
abbrev joinOk (xs : List ByteArray) : Prop := (1 ≤ xs.length ∧ xs.length ≤ 10) ∧ ∀ i, i < xs.length → gd xs i
def fl (xs : List ByteArray) : List Nat := xs.flatMap bs
def jnbR (xs : List ByteArray) : ByteArray × Bool := if joinOk xs then (ofN (fl xs), true) else (⟨#[]⟩, false)
theorem fl_snoc (xs : List ByteArray) (k : Nat) (h : k < xs.length) : fl (xs.take (k + 1)) = fl (xs.take k) ++ bs (xs.getD k ⟨#[]⟩) := by
 unfold fl
 rw [List.take_succ_eq_append_getElem h, List.flatMap_append, qg, List.getElem?_eq_getElem h]
 simp
theorem fl_len (xs : List ByteArray) (k : Nat) (hk : k ≤ xs.length) (h : ∀ i, i < k → (xs.getD i ⟨#[]⟩).size ≤ 16) : (fl (xs.take k)).length ≤ 16 * k := by
 induction k with
 | zero => simp [fl]
 | succ k ih =>
  rw [fl_snoc xs k (by omega), List.length_append, bs_length]
  have := ih (by omega) (fun i hi => h i (by omega))
  have := h k (by omega)
  omega
theorem hasBodies_yes (n : Int) (w : World) (h0 : 1 ≤ n) (h1 : n ≤ 10) : Calls Tryz.prog 115 #[.int .i64 n] w fun e w' => e = .returned (.bool true) ∧ w = w' := by
 go_enter Tryz.func115, Tryz.ntmps115
 go_wp2
 go_ret
 exact ⟨rfl, rfl⟩
theorem hasBodies_no (n : Int) (w : World) (h : n < 1 ∨ 10 < n) : Calls Tryz.prog 115 #[.int .i64 n] w fun e w' => e = .returned (.bool false) ∧ w = w' := by
 rcases h with h | h
 ·go_enter Tryz.func115, Tryz.ntmps115
  go_wp2
  go_ret
  exact ⟨rfl, rfl⟩
 ·have h0 : 1 ≤ n := by omega
  have hd : decide (n ≤ 10) = false := decide_eq_false (by omega)
  go_enter Tryz.func115, Tryz.ntmps115
  go_wp2
  go_ret
  exact ⟨rfl, rfl⟩
theorem isFull_calls (s : ByteArray) (w : World) (hs : s.size ≤ maxLen) : Calls Tryz.prog 160 #[.string s] w fun e w' => e = .returned (.bool (decide (s.size = 16))) ∧ w = w' := by
 unfold maxLen at hs
 by_cases h : s.size = 16
 ·have h' : (s.size : Int) = 16 := by omega
  go_enter Tryz.func160, Tryz.ntmps160
  go_wp2
  go_ret
  exact ⟨by simp [h], rfl⟩
 ·have h' : ¬ (s.size : Int) = 16 := by omega
  have h2 : ((s.size : Int) == 16) = false := by simp; omega
  go_enter Tryz.func160, Tryz.ntmps160
  go_wp2
  go_ret
  exact ⟨by simp [h], rfl⟩
theorem allFull_calls (v : Value) (xs : List ByteArray) (w : World) (h : RdT w v xs) :
    Calls Tryz.prog 91 #[v, .func (.func 160) #[] #[]] w fun e w' => e = .returned (.bool (decide (∀ i, i < xs.length → (xs.getD i ⟨#[]⟩).size = 16))) ∧ w = w' := by
 obtain ⟨a, cap, rfl, h1, h2, h4, h3⟩ := h
 have hm : xs.length ≤ maxLen := by omega
 unfold maxLen at hm
 have H3 := hide h3
 have H4 := hide h4
 clear h3 h4 h2 h1
 go_enter Tryz.func91, Tryz.ntmps91
 go_wp2
 go_loop [9] (fun vi => ∃ k : Nat, k ≤ xs.length ∧ vi = .int .i64 k ∧ ∀ i, i < k → (xs.getD i ⟨#[]⟩).size = 16) (fun vi => xs.length - (intOf vi).toNat)
 case atStart => exact ⟨0, Nat.zero_le _, rfl, fun i hi => by omega⟩
 case round =>
  obtain ⟨k, hk, rfl, hall⟩ := hrel
  have HA := hide hall
  clear hall
  by_cases hlt : k < xs.length
  ·rcases H3.out with h3 | ⟨b, off, rfl, hbs, hc⟩
   ·subst h3; simp at hlt
   have hc1 := hc k hlt
   have hz : (xs.getD k ⟨#[]⟩).size ≤ maxLen := by
    apply H4.out
    rw [qg, List.getElem?_eq_getElem hlt]
    exact List.getElem_mem hlt
   clear hc
   obtain ⟨z, hzz⟩ : ∃ z, z = xs.getD k ⟨#[]⟩ := ⟨_, rfl⟩
   rw [← hzz] at hc1 hz
   have HZ := hide hzz
   have hlt' : (k : Int) < (xs.length : Int) := by omega
   clear hzz
   go_wp2_with fail
   refine (isFull_calls z _ hz).mono ?_
   rintro e w1 ⟨rfl, rfl⟩
   by_cases h16 : z.size = 16
   ·rw [decide_eq_true h16]
    have H16 := hide h16
    clear h16
    go_wp2
    go_round
    case rel =>
     refine ⟨k + 1, by omega, by go_num, fun i hi => ?_⟩
     by_cases e : i = k
     ·subst e; rw [← HZ.out]; exact H16.out
     ·exact HA.out i (by omega)
    case measure => simp [intOf]; omega
   ·rw [decide_eq_false h16]
    have H16 := hide h16
    clear h16
    go_wp2
    go_ret
    refine ⟨ret_bool ?_, rfl⟩
    symm
    exact decide_eq_false (fun h => H16.out (by rw [HZ.out]; exact h k hlt))
  ·obtain rfl : k = xs.length := by omega
   go_wp2
   go_ret
   exact ⟨ret_bool (decide_eq_true HA.out).symm, rfl⟩
theorem getD_take (xs : List ByteArray) (n i : Nat) (h : i < n) (hn : n ≤ xs.length) : (xs.take n).getD i ⟨#[]⟩ = xs.getD i ⟨#[]⟩ := by
 rw [qg, qg, List.getElem?_take, if_pos h]
theorem RdT.cut {w : World} {a : Option Addr} {cap n m : Nat} {xs : List ByteArray} (h : RdT w (.slice a m cap) xs) (hn : n ≤ xs.length) : RdT w (.slice a n cap) (xs.take n) := by
 obtain ⟨a', cap', hv, h1, h2, h4, h3⟩ := h
 simp only [Value.slice.injEq] at hv
 obtain ⟨rfl, _, rfl⟩ := hv
 have el : (xs.take n).length = n := by rw [List.length_take]; omega
 refine ⟨a, cap, by rw [el], by rw [el]; omega, h2, fun s hs => h4 s (List.mem_of_mem_take hs), ?_⟩
 rcases h3 with h3 | ⟨b, off, rfl, hlt, hc⟩
 ·left; subst h3; simp
 ·right
  refine ⟨b, off, rfl, hlt, fun i hi => ?_⟩
  rw [el] at hi
  rw [getD_take xs n i hi hn]
  exact hc i (by omega)
theorem gd_all (xs : List ByteArray) (h1 : 1 ≤ xs.length) : (∀ i, i < xs.length → gd xs i) ↔ ((1 ≤ (xs.getD (xs.length - 1) ⟨#[]⟩).size ∧ (xs.getD (xs.length - 1) ⟨#[]⟩).size ≤ 16) ∧ ∀ i, i < (xs.take (xs.length - 1)).length → ((xs.take (xs.length - 1)).getD i ⟨#[]⟩).size = 16) := by
 have el : (xs.take (xs.length - 1)).length = xs.length - 1 := by rw [List.length_take]; omega
 rw [el]
 constructor
 ·intro h
  refine ⟨(h (xs.length - 1) (by omega)).1, fun i hi => ?_⟩
  rw [getD_take xs _ i hi (by omega)]
  exact (h i (by omega)).2 (by omega)
 ·rintro ⟨h2, h3⟩ i hi
  by_cases e : i = xs.length - 1
  ·subst e
   exact ⟨h2, fun h => by omega⟩
  ·have := h3 i (by omega)
   rw [getD_take xs _ i (by omega) (by omega)] at this
   exact ⟨by omega, fun _ => this⟩
theorem areBodies_calls (v : Value) (xs : List ByteArray) (w : World) (h : RdT w v xs) (h1 : 1 ≤ xs.length) :
    Calls Tryz.prog 116 #[v] w fun e w' => e = .returned (.bool (decide (∀ i, i < xs.length → gd xs i))) ∧ w = w' := by
 have R := hide h
 have IFF := hide (gd_all xs h1)
 obtain ⟨a, cap, rfl, hl1, h2, h4, h3⟩ := h
 have hm : xs.length ≤ maxLen := by omega
 unfold maxLen at hm
 have hz : (xs.getD (xs.length - 1) ⟨#[]⟩).size ≤ maxLen := by
  apply h4
  rw [qg, List.getElem?_eq_getElem (by omega)]
  exact List.getElem_mem _
 unfold maxLen at hz
 rcases h3 with h3 | ⟨b, off, rfl, hbs, hc⟩
 ·subst h3; simp at h1
 have hc1 := hc (xs.length - 1) (by omega)
 obtain ⟨z, hzz⟩ : ∃ z, z = xs.getD (xs.length - 1) ⟨#[]⟩ := ⟨_, rfl⟩
 rw [← hzz] at hc1 hz
 have HZ := hide hzz
 clear hzz hc h4 h2
 have t1 : ((xs.length : Int) - 1).toNat = xs.length - 1 := by omega
 have t2 : (0 : Int) ≤ (xs.length : Int) - 1 := by omega
 have t3 : (xs.length : Int) - 1 < (xs.length : Int) := by omega
 have t4 : (xs.length : Int) - 1 ≤ (cap : Int) := by omega
 by_cases hz1 : 1 ≤ z.size
 case neg =>
  have hf : decide (∀ i, i < xs.length → gd xs i) = false := decide_eq_false (fun h => hz1 (by rw [HZ.out]; exact (IFF.out.1 h).1.1))
  have HF := hide hf
  have u1 : ¬ (1 : Int) ≤ (z.size : Int) := by omega
  clear hf
  go_enter Tryz.func116, Tryz.ntmps116
  go_wp2
  go_ret
  exact ⟨ret_bool HF.out.symm, rfl⟩
 by_cases hz2 : z.size ≤ 16
 case neg =>
  have hf : decide (∀ i, i < xs.length → gd xs i) = false := decide_eq_false (fun h => hz2 (by rw [HZ.out]; exact (IFF.out.1 h).1.2))
  have HF := hide hf
  have u1 : (1 : Int) ≤ (z.size : Int) := by omega
  have u2 : ¬ (z.size : Int) ≤ 16 := by omega
  have u3 : decide ((z.size : Int) ≤ 16) = false := decide_eq_false u2
  clear hf
  go_enter Tryz.func116, Tryz.ntmps116
  go_wp2
  go_ret
  exact ⟨ret_bool HF.out.symm, rfl⟩
 have u1 : (1 : Int) ≤ (z.size : Int) := by omega
 have u2 : (z.size : Int) ≤ 16 := by omega
 have RC := hide (R.out.cut (n := xs.length - 1) (by omega))
 have hd : Hid (decide (∀ i, i < (xs.take (xs.length - 1)).length → ((xs.take (xs.length - 1)).getD i ⟨#[]⟩).size = 16) = decide (∀ i, i < xs.length → gd xs i)) := by
  show _ = _
  refine decide_eq_decide.2 ⟨fun h => IFF.out.2 ⟨by rw [← HZ.out]; exact ⟨hz1, hz2⟩, h⟩, fun h => (IFF.out.1 h).2⟩
 generalize decide (∀ i, i < xs.length → gd xs i) = y at hd ⊢
 go_enter Tryz.func116, Tryz.ntmps116
 go_wp2_with fail
 refine (allFull_calls _ _ _ RC.out).mono ?_
 rintro e w1 ⟨rfl, rfl⟩
 rw [hd.out]
 go_wp2
 go_ret
 exact ⟨rfl, rfl⟩
theorem joinBody_calls (v : Value) (xs : List ByteArray) (w : World) (h : RdT w v xs) :
    Calls Tryz.prog 69 #[v] w fun e w' => e = .returned (.tuple #[.string (jnbR xs).1, .bool (jnbR xs).2]) ∧ Below w.heap.size w w' := by
 have R := hide h
 obtain ⟨a, cap, rfl, hl1, h2, h4, h3⟩ := h
 have hm : xs.length ≤ maxLen := by omega
 unfold maxLen at hm
 by_cases hn : 1 ≤ xs.length ∧ xs.length ≤ 10
 case neg =>
  have er : jnbR xs = (⟨#[]⟩, false) := if_neg (fun h => hn h.1)
  rw [er]
  clear er h3 h4
  go_enter Tryz.func69, Tryz.ntmps69
  go_wp2_with fail
  refine (hasBodies_no _ _ (by omega)).mono ?_
  rintro e w1 ⟨rfl, rfl⟩
  go_wp2
  go_ret2
  exact ⟨rfl, Below.refl _ _⟩
 obtain ⟨hn1, hn2⟩ := hn
 by_cases hg : ∀ i, i < xs.length → gd xs i
 case neg =>
  have er : jnbR xs = (⟨#[]⟩, false) := if_neg (fun h => hg h.2)
  have hd : Hid (decide (∀ i, i < xs.length → gd xs i) = false) := decide_eq_false hg
  rw [er]
  clear er h3 h4 hg
  go_enter Tryz.func69, Tryz.ntmps69
  go_wp2_with fail
  refine (hasBodies_yes _ _ (by omega) (by omega)).mono ?_
  rintro e w1 ⟨rfl, rfl⟩
  go_wp2_with fail
  refine (areBodies_calls _ xs _ R.out hn1).mono ?_
  rintro e w1 ⟨rfl, rfl⟩
  rw [hd.out]
  go_wp2
  go_ret2
  exact ⟨rfl, Below.refl _ _⟩
 have er : jnbR xs = (ofN (fl xs), true) := if_pos ⟨⟨hn1, hn2⟩, hg⟩
 have hd : Hid (decide (∀ i, i < xs.length → gd xs i) = true) := decide_eq_true hg
 have hF : (fl9 xs).length ≤ 160 := by
  have := fl_len xs xs.length (Nat.le_refl _) (fun i hi => (hg i hi).1.2)
  rw [List.take_length] at this
  show (fl xs).length ≤ 160
  omega
 have HF := hide hF
 have HS : Hid (∀ i, i < xs.length → (xs.getD i ⟨#[]⟩).size ≤ 1048576) := fun i hi => Nat.le_trans (hg i hi).1.2 (by decide)
 rw [er]
 clear er h3 h4 hg hF
 go_enter Tryz.func69, Tryz.ntmps69
 go_wp2_with fail
 refine (hasBodies_yes _ _ (by omega) (by omega)).mono ?_
 rintro e w1 ⟨rfl, rfl⟩
 go_wp2_with fail
 refine (areBodies_calls _ xs _ R.out hn1).mono ?_
 rintro e w1 ⟨rfl, rfl⟩
 rw [hd.out]
 go_wp2_with fail
 refine (joinTexts_calls _ xs _ R.out (by omega) (Nat.le_trans HF.out (by decide)) HS.out).mono ?_
 rintro e w1 ⟨rfl, b1⟩
 go_wp2
 go_ret2
 exact ⟨rfl, b1⟩
open Gf (ci nat)
theorem l8Text_calls (v : Value) (l : List Nat) (w : World) (h : Rd w v (ci l)) (hl : ∀ b ∈ l, b < 256) (hn : l.length ≤ 4096) :
    Calls Tryz.prog 82 #[v] w fun e w' => e = .returned (.string (ofN l)) ∧ Below w.heap.size w w' := by
 obtain ⟨a, cap, hv, m1, m2, m3⟩ := h
 rw [Gf.ci_length] at hv m3
 subst hv
 have M3 := hide m3
 have HL := hide hl
 clear m1 m2 m3 hl
 go_enter Tryz.func82, Tryz.ntmps82
 go_wp2
 go_loopw [3, 5, 8] (fun vs _ vi wr => ∃ k : Nat, k ≤ l.length ∧ vi = .int .i64 k ∧ vs = .string (ofN (l.take k)) ∧ Below w.heap.size w wr) (fun _ _ vi _ => l.length - (intOf vi).toNat)
 case atStart => exact ⟨0, Nat.zero_le _, rfl, rfl, Below.refl _ _⟩
 case round =>
  obtain ⟨k, hk, rfl, rfl, hb⟩ := hrel
  have HB := hide hb
  by_cases hlt : k < l.length
  ·have hlt' : (k : Int) < (l.length : Int) := by omega
   rcases M3.out with h3 | ⟨b, off, rfl, hbs, hc⟩
   ·have : l = [] := by simpa [ci] using h3
    rw [this] at hlt
    simp at hlt
   have hck : wr.cell? ⟨b, off + k, none⟩ = some (.int .i64 ((l.getD k 0 : Nat) : Int)) := by
    rw [← Gf.ci_getD]
    exact (hb.cell (p := ⟨b, off + k, none⟩) hbs).trans (hc k hlt)
   have hx256 : l.getD k 0 < 256 := by
    rw [qg, List.getElem?_eq_getElem hlt]
    exact HL.out _ (List.getElem_mem hlt)
   have NX : Hid (ofN (l.take (k + 1)) = ofN (l.take k) ++ ofN [l.getD k 0]) := by
    show _ = _
    rw [ofN_append, take_snoc l k hlt]
   have tsz : (ofN (l.take k)).size ≤ 4096 := by rw [ofN_size, List.length_take]; omega
   generalize l.getD k 0 = x at hck hx256 NX
   generalize ofN (l.take k) = tt at NX tsz ⊢
   have hbt := byte_text x hx256 wr
   have hadd := run_string_add_sum (P := Tryz.prog) (w := wr.alloc (.cells #[.int .u8 (x : Int)] 5)) tt (ofN [x]) (by rw [ofN_size]; simp; omega)
   have HB2 := hide (HB.out.alloc HB.out.size (.cells #[.int .u8 (x : Int)] 5))
   clear hc hb
   go_wp2
   go_roundw
   case rel => exact ⟨k + 1, by omega, by go_num, by rw [NX.out], HB2.out⟩
   case measure => simp [intOf]; omega
  ·obtain rfl : k = l.length := by omega
   rw [List.take_of_length_le (Nat.le_refl _)]
   clear hb
   go_wp2
   go_ret
   exact ⟨rfl, HB.out⟩
def padL (r : List Int) : List Int := r ++ List.replicate (32 - r.length) 0
def padA (r : List Int) : Array Value := ((padL r).map (Value.int .i64)).toArray
theorem padL_length (r : List Int) (h : r.length ≤ 32) : (padL r).length = 32 := by simp [padL]; omega
theorem padA_size (r : List Int) (h : r.length ≤ 32) : (padA r).size = 32 := by simp [padA, padL_length r h]
theorem padA_one (r : List Int) : (padA r).all (·.oneCell') = true := by
 rw [Array.all_eq_true_iff_forall_mem]
 intro v hv
 simp only [padA, List.mem_toArray, List.mem_map] at hv
 obtain ⟨x, _, rfl⟩ := hv
 rfl
theorem padA_nil : padA [] = #[.int .i64 0, .int .i64 0, .int .i64 0, .int .i64 0, .int .i64 0, .int .i64 0, .int .i64 0, .int .i64 0, .int .i64 0, .int .i64 0, .int .i64 0, .int .i64 0, .int .i64 0, .int .i64 0, .int .i64 0, .int .i64 0, .int .i64 0, .int .i64 0, .int .i64 0, .int .i64 0, .int .i64 0, .int .i64 0, .int .i64 0, .int .i64 0, .int .i64 0, .int .i64 0, .int .i64 0, .int .i64 0, .int .i64 0, .int .i64 0, .int .i64 0, .int .i64 0] := by rfl
theorem zeros1 : (#[.int .i64 0, .int .i64 0, .int .i64 0, .int .i64 0, .int .i64 0, .int .i64 0, .int .i64 0, .int .i64 0, .int .i64 0, .int .i64 0, .int .i64 0, .int .i64 0, .int .i64 0, .int .i64 0, .int .i64 0, .int .i64 0, .int .i64 0, .int .i64 0, .int .i64 0, .int .i64 0, .int .i64 0, .int .i64 0, .int .i64 0, .int .i64 0, .int .i64 0, .int .i64 0, .int .i64 0, .int .i64 0, .int .i64 0, .int .i64 0, .int .i64 0, .int .i64 0] : Array Value).all (·.oneCell') = true := by
 rw [← padA_nil]
 exact padA_one []
theorem wholeInfo : (Tryz.prog.info? 184).map (·.size) = some 32 := by kernel_rfl
theorem wholeUnder : Tryz.prog.underlying 184 = some (.array 32 3) := by kernel_rfl
theorem padA_copy (r : List Int) : ((padA []).toList.take 0 ++ (r.map (Value.int .i64) ++ (padA []).toList.drop (0 + (r.map (Value.int .i64)).length))).toArray = padA r := by
 have e : (padA []).toList = List.replicate 32 (Value.int .i64 0) := by unfold padA padL; simp only [List.nil_append, List.length_nil, Nat.sub_zero, List.map_replicate]
 rw [e, List.take_zero, List.nil_append, List.drop_replicate, List.length_map, Nat.zero_add]
 unfold padA padL
 rw [List.map_append, List.map_replicate]
theorem setRow2 (w : World) (A : Obj) (c c' : Array Value) (t : TypeId) : ((w.alloc A).alloc (.cells c t)).setRow (w.heap.size + 1) c' = (w.alloc A).alloc (.cells c' t) := by
 have := World.setRow_alloc_new (w.alloc A) c c' t
 have e : (w.alloc A).heap.size = w.heap.size + 1 := by simp
 rwa [e] at this
theorem copy_whole {w2 : World} {g : Nat} {Z PR : Array Value} {a : Option Addr} {cap : Nat} {r : List Int} (hg : w2.heap[g]? = some (.cells Z 184 (0, 0))) (hr : Rd w2 (.slice a r.length cap) r) (hl : r.length ≤ 32) (hz : Z.size = 32)
    (hc : (Z.toList.take 0 ++ (r.map (Value.int .i64) ++ Z.toList.drop (0 + (r.map (Value.int .i64)).length))).toArray = PR) :
    ∃ w3, (Builtin.copy_ #[32, 32] 3 #[.slice (some ⟨g, 0, none⟩) 32 32, .slice a r.length cap]).run Tryz.prog w2 = .ok (goInt r.length) w3 ∧ w3.heap[g]? = some (.cells PR 184 (0, 0)) ∧ w2.grownBy w3 (some g) := by
 obtain ⟨a', cap', hv, _, _, h3⟩ := hr
 simp only [Value.slice.injEq, true_and] at hv
 obtain ⟨rfl, rfl⟩ := hv
 rcases h3 with h3 | ⟨b, off, rfl, _, hcell⟩
 ·subst h3
  refine ⟨w2, run_copy_none (P := Tryz.prog) w2 _ _ _ 3 _ _ _ _ _ _ Tryz.underlying32 infoSize (by simp), ?_, World.grownBy.refl _ _⟩
  have : PR = Z := by rw [← hc]; simp
  rw [this]
  exact hg
 ·have hrun := run_copy_row (P := Tryz.prog) w2 32 32 3 3 g 0 32 32 ⟨b, off, none⟩ r.length cap Z 184 (r.map (Value.int .i64)) Tryz.underlying32 infoSize hg (by rw [List.length_map]; exact (Nat.min_eq_left hl).symm) (fun j y hj => by
    have hjl : j < r.length := by simpa using (List.getElem?_eq_some_iff.1 hj).1
    have hadd : (⟨b, off, none⟩ : Addr).add j = ⟨b, off + j, none⟩ := by unfold Addr.add; split <;> simp_all
    rw [hadd, hcell j hjl]
    rw [List.getElem?_map, List.getElem?_eq_getElem hjl] at hj
    simp only [Option.map_some, Option.some.injEq] at hj
    rw [← hj, qg, List.getElem?_eq_getElem hjl, Option.getD_some]) (by simp; omega) (ints_oneCell _ _)
  rw [List.append_assoc, hc, List.length_map] at hrun
  exact ⟨_, hrun, setRow_heap w2 g _ PR 184 _ hg, rfl, rfl, rfl, by simp [World.setRow], fun k _ hk => setRow_other w2 g k _ (fun e => hk (by simp [e]))⟩
theorem wholeOf_calls (v : Value) (r : List Int) (w : World) (h : Rd w v r) (hl : r.length ≤ 32) :
    Calls Tryz.prog 159 #[v] w fun e w' => e = .returned (.agg (padA r)) ∧ Below w.heap.size w w' := by
 have R := hide h
 obtain ⟨a, cap, rfl, _⟩ := h
 obtain ⟨Z, hZ⟩ : ∃ Z, Z = padA [] := ⟨_, rfl⟩
 have Zsz : Hid (Z.size = 32) := by rw [hZ]; exact padA_size [] (by simp)
 have Z1 : Hid (Z.all (·.oneCell') = true) := by rw [hZ]; exact padA_one []
 have ZC : Hid ((Z.toList.take 0 ++ (r.map (Value.int .i64) ++ Z.toList.drop (0 + (r.map (Value.int .i64)).length))).toArray = padA r) := by rw [hZ]; exact padA_copy r
 have ZE : Hid (#[.int .i64 0, .int .i64 0, .int .i64 0, .int .i64 0, .int .i64 0, .int .i64 0, .int .i64 0, .int .i64 0, .int .i64 0, .int .i64 0, .int .i64 0, .int .i64 0, .int .i64 0, .int .i64 0, .int .i64 0, .int .i64 0, .int .i64 0, .int .i64 0, .int .i64 0, .int .i64 0, .int .i64 0, .int .i64 0, .int .i64 0, .int .i64 0, .int .i64 0, .int .i64 0, .int .i64 0, .int .i64 0, .int .i64 0, .int .i64 0, .int .i64 0, .int .i64 0] = Z) := by rw [hZ]; exact padA_nil.symm
 clear hZ
 go_enter Tryz.func159, Tryz.ntmps159
 go_wp2_with (refine wpList_store_row rfl 184 (.tmp 3) (.tmp 4) rfl (w.heap.size + 1) _ rfl rfl 184 _ (heap_alloc2_new w _ _) wholeInfo rfl zeros1 ?_)
 rw [setRow2, ZE.out]
 obtain ⟨w2, hw2⟩ : ∃ w2, w2 = (w.alloc (.cells Z 184)).alloc (.cells Z 184) := ⟨_, rfl⟩
 have hg1 : w2.heap[w.heap.size + 1]? = some (.cells Z 184 (0, 0)) := by rw [hw2]; exact heap_alloc2_new w _ _
 have hg0 : w2.heap[w.heap.size]? = some (.cells Z 184 (0, 0)) := by
  rw [hw2, heap_alloc_old _ _ (by simp)]
  exact heap_alloc_new w _
 have hb2 : Below w.heap.size w w2 := by
  rw [hw2]
  exact ((Below.refl _ _).alloc (Nat.le_refl _) _).alloc (by simp) _
 rw [← hw2]
 have G1 := hide hg1
 have G0 := hide hg0
 have B2 := hide hb2
 have RR := hide (R.out.below hb2)
 clear hw2 hg1 hg0 hb2
 obtain ⟨PR, hPR⟩ : ∃ PR, PR = padA r := ⟨_, rfl⟩
 have PS : Hid (PR.size = 32) := by rw [hPR]; exact padA_size r hl
 have P1 : Hid (PR.all (·.oneCell') = true) := by rw [hPR]; exact padA_one r
 have PE := hide hPR
 have ZC2 := ZC.out
 rw [← hPR] at ZC2
 obtain ⟨w3, hrun, hg3, hgr3⟩ := copy_whole G1.out RR.out hl Zsz.out ZC2
 have G3 := hide hg3
 have G30 : Hid (w3.heap[w.heap.size]? = some (.cells Z 184 (0, 0))) := by
  have hlt : w.heap.size < w2.heap.size := (Array.getElem?_eq_some_iff.1 G0.out).1
  exact (hgr3.block w.heap.size hlt (by simp)).trans G0.out
 have B3 := hide (B2.out.grown hgr3 B2.out.size (fun k hk => by cases hk; omega))
 rw [hrun]
 simp only [Result.andThen]
 rw [Oper.upon_value]
 clear hrun hg3 hgr3 hPR ZC2
 go_wp2_with (first | (refine wpList_load_row rfl 184 (.tmp 3) rfl (w.heap.size + 1) rfl 184 PR (0, 0) (.array 32 3) G3.out wholeUnder rfl (by rw [PS.out]; exact wholeInfo) ?_) | (refine wpList_store_row rfl 184 (.tmp 2) (.tmp 8) rfl w.heap.size PR rfl rfl 184 Z G30.out (by rw [PS.out]; exact wholeInfo) (by rw [PS.out, Zsz.out]) P1.out ?_))
 have hg4 : (w3.setRow w.heap.size PR).heap[w.heap.size]? = some (.cells PR 184 (0, 0)) := setRow_heap w3 w.heap.size _ PR 184 _ G30.out
 have hb4 : Below w.heap.size w (w3.setRow w.heap.size PR) := below_setRow B3.out (Nat.le_refl _) _
 (try simp only [Exit.inBlock, Exit.then])
 refine bodyPost_ret (v := .agg PR) (results_cell_row rfl _ _ w.heap.size 184 PR (0, 0) (.array 32 3) rfl hg4 wholeUnder rfl (by rw [PS.out]; exact wholeInfo)) rfl ⟨by rw [PE.out], hb4⟩
theorem eqItems_ints (d : Nat) (xs ys : List Int) (w : World) : ∀ (is : List Nat), (∀ i ∈ is, i < xs.length ∧ i < ys.length) →
    (Op.eqItems (d + 1) 3 1 (xs.map (Value.int .i64)).toArray (ys.map (Value.int .i64)).toArray is).run Tryz.prog w = .ok (is.all fun i => xs.getD i 0 == ys.getD i 0) w := by
 intro is
 induction is with
 | nil => intro _; simp [Op.eqItems]
 | cons i is ih =>
  intro h
  obtain ⟨h1, h2⟩ := h i (by simp)
  have px : (part 3 (xs.map (Value.int .i64)).toArray (i * 1)).run Tryz.prog w = .ok (.int .i64 (xs.getD i 0)) w := by
   simp [part, isAgg, run_underlying Tryz.underlying3, qg, List.getElem?_eq_getElem h1]
  have py : (part 3 (ys.map (Value.int .i64)).toArray (i * 1)).run Tryz.prog w = .ok (.int .i64 (ys.getD i 0)) w := by
   simp [part, isAgg, run_underlying Tryz.underlying3, qg, List.getElem?_eq_getElem h2]
  have pe := run_equalIn_int (P := Tryz.prog) w d 3 .i64 .i64 (xs.getD i 0) (ys.getD i 0) Tryz.underlying3
  simp only [Op.eqItems, Sem.run_bind, px, py, pe, Result.andThen_ok, List.all_cons]
  cases (xs.getD i 0 == ys.getD i 0) with
  | false => simp
  | true =>
   simp only [Bool.not_true, Bool.false_eq_true, if_false, Bool.true_and]
   exact ih fun j hj => h j (by simp [hj])
theorem all_same {xs ys : List Int} (h : xs.length = ys.length) : ((List.range xs.length).all fun i => xs.getD i 0 == ys.getD i 0) = decide (xs = ys) := by
 rw [Bool.eq_iff_iff]
 simp only [List.all_eq_true, List.mem_range, beq_iff_eq, decide_eq_true_eq]
 constructor
 ·intro hh
  apply List.ext_getElem h
  intro i h1 h2
  have := hh i h1
  rwa [qg, qg, List.getElem?_eq_getElem h1, List.getElem?_eq_getElem h2, Option.getD_some, Option.getD_some] at this
 ·rintro rfl i _; rfl
theorem padL_inj {r s : List Int} (h : r.length = s.length) : padL r = padL s ↔ r = s := by
 constructor
 ·intro e
  unfold padL at e
  exact (List.append_inj e h).1
 ·rintro rfl; rfl
theorem intInfo : ∃ i, Tryz.prog.info? 3 = some i := by
 obtain ⟨i0, hi, _⟩ := info_parts infoInt
 exact ⟨i0, hi⟩
theorem cellsOfInt : Tryz.prog.cellsOf 3 = 1 := by kernel_rfl
theorem equal_whole (r s : List Int) (hr : r.length ≤ 32) (hs : s.length ≤ 32) (h : r.length = s.length) (w : World) :
    (Op.equalIn 10000 184 (.agg (padA r)) (.agg (padA s))).run Tryz.prog w = .ok (decide (r = s)) w := by
 obtain ⟨i, hi⟩ := intInfo
 rw [run_equalIn_array (P := Tryz.prog) w 9999 _ _ wholeUnder hi, cellsOfInt]
 unfold padA
 rw [eqItems_ints 9998 (padL r) (padL s) w (List.range 32) (fun i hi => by rw [padL_length r hr, padL_length s hs]; exact ⟨List.mem_range.1 hi, List.mem_range.1 hi⟩)]
 have := all_same (xs := padL r) (ys := padL s) (by rw [padL_length r hr, padL_length s hs])
 rw [padL_length r hr] at this
 rw [this]
 congr 1
 rw [Bool.eq_iff_iff]
 simp only [decide_eq_true_eq]
 exact padL_inj h
def unlTo (a b : List (List Int)) : Nat → Nat
 | 0 => 0
 | k + 1 => unlTo a b k + if a.getD k [] = b.getD k [] then 0 else 1
theorem unlTo_le (a b : List (List Int)) (k : Nat) : unlTo a b k ≤ k := by
 induction k with
 | zero => exact Nat.le_refl _
 | succ k ih => rw [unlTo]; split <;> omega
theorem RdM.at {w : World} {a : Option Addr} {n cap : Nat} {m : List (List Int)} (h : RdM w (.slice a n cap) m) (i : Nat) (hi : i < m.length) :
    ∃ b off u, a = some ⟨b, off, none⟩ ∧ b < w.heap.size ∧ w.cell? ⟨b, off + i, none⟩ = some u ∧ Rd w u (m.getD i []) := by
 obtain ⟨a', cap', hv, _, _, h3⟩ := h
 simp only [Value.slice.injEq] at hv
 obtain ⟨rfl, rfl, rfl⟩ := hv
 rcases h3 with h3 | ⟨b, off, rfl, hlt, hc⟩
 ·subst h3; simp at hi
 ·obtain ⟨u, hu, hr⟩ := hc i hi
  exact ⟨b, off, u, rfl, hlt, hu, hr⟩
theorem below_drewC {B : Nat} {w w' : World} (h : Below B w w') : Below B w w'.drew := ⟨h.os, h.tape, h.output, h.size, h.block⟩
theorem countUnlike_calls (av bv : Value) (a b : List (List Int)) (n : Nat) (w : World) (ha : RdM w av a) (hb : RdM w bv b) (hal : a.length = n) (hbl : b.length = n) (hn : n ≤ 4096)
    (hr : ∀ i, i < n → (a.getD i []).length = (b.getD i []).length ∧ (a.getD i []).length ≤ 32) :
    Calls Tryz.prog 114 #[av, bv] w fun e w' => e = .returned (.int .i64 ((unlTo a b n : Nat) : Int)) ∧ Below w.heap.size w w' := by
 have RA := hide ha
 have RB := hide hb
 have HR := hide hr
 have AL := hide hal
 have BL := hide hbl
 obtain ⟨aa, acap, hav, _⟩ := ha
 obtain ⟨ba, bcap, hbv, _⟩ := hb
 rw [hal] at hav
 rw [hbl] at hbv
 subst hav hbv
 clear hr hal hbl
 go_enter Tryz.func114, Tryz.ntmps114
 go_wp2
 go_loopw [5, 9] (fun vn vi wr => ∃ k c : Nat, k ≤ n ∧ vi = .int .i64 k ∧ vn = .int .i64 c ∧ c = unlTo a b k ∧ Below w.heap.size w wr) (fun _ vi _ => n - (intOf vi).toNat)
 case atStart => exact ⟨0, 0, Nat.zero_le _, rfl, rfl, rfl, Below.refl _ _⟩
 case round =>
  obtain ⟨k, c, hk, rfl, rfl, hc, hb⟩ := hrel
  have C := hide hc
  have B := hide hb
  have hcn : c ≤ 4096 := by rw [hc]; have := unlTo_le a b k; omega
  clear hc hb
  by_cases hlt : k < n
  ·have hlt' : (k : Int) < (n : Int) := by omega
   obtain ⟨ab, aoff, au, rfl, hab, hac, hau⟩ := RA.out.at k (by rw [AL.out]; exact hlt)
   obtain ⟨bb, boff, bu, rfl, hbb, hbc, hbu⟩ := RB.out.at k (by rw [BL.out]; exact hlt)
   have hac1 : wr.cell? ⟨ab, aoff + k, none⟩ = some au := (B.out.cell (p := ⟨ab, aoff + k, none⟩) hab).trans hac
   have hbc1 : wr.cell? ⟨bb, boff + k, none⟩ = some bu := (B.out.cell (p := ⟨bb, boff + k, none⟩) hbb).trans hbc
   obtain ⟨r, hrr⟩ : ∃ r, r = a.getD k [] := ⟨_, rfl⟩
   obtain ⟨s, hss⟩ : ∃ s, s = b.getD k [] := ⟨_, rfl⟩
   obtain ⟨hl1, hl2⟩ := HR.out k hlt
   rw [← hrr] at hau hl1 hl2
   rw [← hss] at hbu hl1
   obtain ⟨A, hA⟩ : ∃ A, A = padA r := ⟨_, rfl⟩
   obtain ⟨S, hS⟩ : ∃ S, S = padA s := ⟨_, rfl⟩
   obtain ⟨t, ht⟩ : ∃ t, t = decide (r = s) := ⟨_, rfl⟩
   have heq : ∀ w', Sem.run Tryz.prog (Op.equalIn 10000 184 (.agg A) (.agg S)) w' = .ok t w' := fun w' => by
    rw [hA, hS, ht]
    exact equal_whole r s hl2 (by omega) hl1 w'
   have HA : Hid (∀ W, Below w.heap.size w W → Calls Tryz.prog 159 #[au] W fun e w' => e = .returned (.agg A) ∧ Below W.heap.size W w') := fun W hW => by
    rw [hA]
    exact wholeOf_calls au r W ((hau.below hW)) hl2
   have HB : Hid (∀ W, Below w.heap.size w W → Calls Tryz.prog 159 #[bu] W fun e w' => e = .returned (.agg S) ∧ Below W.heap.size W w') := fun W hW => by
    rw [hS]
    exact wholeOf_calls bu s W ((hbu.below hW)) (by omega)
   have nx : unlTo a b (k + 1) = c + if t = true then 0 else 1 := by
    rw [unlTo, ← C.out, ht, ← hrr, ← hss]
    simp only [decide_eq_true_eq]
   have NX := hide nx
   have i0 : (0 : Int) ≤ (k : Int) := by omega
   have BD := hide (below_drewC B.out)
   obtain ⟨W0, rfl⟩ : ∃ W0, W0 = wr := ⟨_, rfl⟩
   clear hA hS ht nx hac hbc hau hbu hrr hss
   go_wp2
   go_region_with (first
    | (go_at_call 159; refine (HA.out _ BD.out).mono ?_; rintro e w1 ⟨rfl, hb1⟩; have hB1 : Below w.heap.size w w1 := BD.out.trans (hb1.mono BD.out.size); have hbc1' : w1.cell? ⟨bb, boff + k, none⟩ = some bu := (hb1.cell (p := ⟨bb, boff + k, none⟩) (Nat.lt_of_lt_of_le hbb BD.out.size)).trans hbc1)
    | (go_at_call 159; refine (HB.out _ hB1).mono ?_; rintro e w2 ⟨rfl, hb2⟩; have hB2 : Below w.heap.size w w2 := hB1.trans (hb2.mono hB1.size)))
   all_goals
    have BB := hide hB2
    clear hb1 hB1 hbc1' hb2 hB2 heq
    cases t with
    | true =>
     go_wp2
     go_roundw
     case rel => exact ⟨k + 1, c, by omega, by go_num, rfl, by rw [NX.out]; rfl, BB.out⟩
     case measure => simp [intOf]; omega
    | false =>
     go_wp2
     go_roundw
     case rel => exact ⟨k + 1, c + 1, by omega, by go_num, by go_num, by rw [NX.out]; rfl, BB.out⟩
     case measure => simp [intOf]; omega
  ·obtain rfl : k = n := by omega
   go_wp2
   go_ret
   rw [C.out]
   exact ⟨rfl, B.out⟩
def chkOk (d q : Int) (m : List (List Int)) : Bool := codeOk d q && (decide ((m.length : Int) = d + q) && piecesOk m)
theorem chkOk_facts {d q : Int} {m : List (List Int)} (h : chkOk d q m = true) : codeOk d q = true ∧ (m.length : Int) = d + q ∧ piecesOk m = true := by
 simp only [chkOk, Bool.and_eq_true, decide_eq_true_eq] at h
 exact h
theorem areCodePieces_calls (d q : Int) (v : Value) (m : List (List Int)) (w : World) (h : RdM w v m) :
    Calls Tryz.prog 113 #[.int .i64 d, .int .i64 q, v] w fun e w' => e = .returned (.bool (chkOk d q m)) ∧ Below w.heap.size w w' := by
 have R := hide h
 obtain ⟨a, cap, rfl, _⟩ := h
 cases hc : codeOk d q with
 | false =>
  have e : chkOk d q m = false := by simp [chkOk, hc]
  rw [e]
  have C := hide hc
  clear hc e
  go_enter Tryz.func113, Tryz.ntmps113
  go_wp2_with fail
  refine (isCode_calls d q _).mono ?_
  rw [C.out]
  rintro e w' ⟨rfl, rfl⟩
  go_wp2
  go_ret
  exact ⟨rfl, Below.refl _ _⟩
 | true =>
  obtain ⟨f1, f2, f3, f4⟩ := codeOk_facts hc
  have C := hide hc
  by_cases hl : (m.length : Int) = d + q
  ·have t1 : ((m.length : Int) == d + q) = true := by simp [hl]
   obtain ⟨p, hp⟩ : ∃ p, p = piecesOk m := ⟨_, rfl⟩
   have e : chkOk d q m = p := by rw [chkOk, hc, decide_eq_true hl, hp]; rfl
   rw [e]
   have PO := hide hp
   clear hc e hl hp
   go_enter Tryz.func113, Tryz.ntmps113
   go_wp2_with fail
   refine (isCode_calls d q _).mono ?_
   rw [C.out]
   rintro e w' ⟨rfl, rfl⟩
   go_wp2_with fail
   refine (arePieces_calls _ m _ R.out).mono ?_
   rw [← PO.out]
   rintro e w1 ⟨rfl, hb⟩
   have B := hide hb
   clear hb
   go_wp2
   go_ret
   exact ⟨rfl, B.out⟩
  ·have t1 : ((m.length : Int) == d + q) = false := by simp [hl]
   have e : chkOk d q m = false := by rw [chkOk, decide_eq_false hl]; simp
   rw [e]
   clear hc e hl
   go_enter Tryz.func113, Tryz.ntmps113
   go_wp2_with fail
   refine (isCode_calls d q _).mono ?_
   rw [C.out]
   rintro e w' ⟨rfl, rfl⟩
   go_wp2
   go_ret
   exact ⟨rfl, Below.refl _ _⟩
theorem rdM_take {w : World} {a : Option Addr} {n cap : Nat} {m : List (List Int)} (h : RdM w (.slice a n cap) m) (i : Nat) (hi : i ≤ m.length) : RdM w (.slice a i cap) (m.take i) := by
 obtain ⟨a', cap', hv, h1, h2, h3⟩ := h
 simp only [Value.slice.injEq] at hv
 obtain ⟨rfl, rfl, rfl⟩ := hv
 have hl : (m.take i).length = i := by simp; omega
 refine ⟨a, cap, by rw [hl], by rw [hl]; omega, h2, ?_⟩
 rcases h3 with h3 | ⟨b, off, rfl, hlt, hc⟩
 ·subst h3; exact .inl (by simp)
 ·refine .inr ⟨b, off, rfl, hlt, fun j hj => ?_⟩
  rw [hl] at hj
  obtain ⟨u, hu, hr⟩ := hc j (by omega)
  refine ⟨u, hu, ?_⟩
  have e : (m.take i).getD j [] = m.getD j [] := by simp [qg, hj]
  rw [e]
  exact hr
theorem pieces_take {m : List (List Int)} (h : piecesOk m = true) (i : Nat) (h0 : 0 < i) (hi : i ≤ m.length) : piecesOk (m.take i) = true := by
 refine piecesOk_yes fun j hj => ?_
 have hl : (m.take i).length = i := by simp; omega
 rw [hl] at hj
 have e : (m.take i).getD j [] = m.getD j [] := by simp [qg, hj]
 have e0 : (m.take i).getD 0 [] = m.getD 0 [] := by simp [qg, h0]
 have := piecesOk_at h j (by omega)
 rw [pieceAt, e, e0, decide_eq_true ⟨this.1, this.2.1⟩, this.2.2]; rfl
def encT (d q : Nat) (m : List (List Int)) : List (List Int) := mulM (codeM d q) (m.take d)
def chkR (d q : Int) (m : List (List Int)) : Bool × Bool := if chkOk d q m = true then (decide (((unlTo m (encT d.toNat q.toNat m) m.length : Nat) : Int) = 0), true) else (false, false)
theorem encT_rows {D Q : Nat} {m : List (List Int)} (hp : piecesOk m = true) (h1 : 1 ≤ D) (hl : m.length = D + Q) : (encT D Q m).length = m.length ∧ ∀ i, i < m.length → (m.getD i []).length = ((encT D Q m).getD i []).length ∧ (m.getD i []).length ≤ 32 := by
 have h0 : 0 < D := h1
 have e0 : (m.take D).getD 0 [] = m.getD 0 [] := by simp [qg, h0]
 refine ⟨by rw [encT, mulM_length, codeM_length, hl], fun i hi => ?_⟩
 have := piecesOk_at hp i hi
 unfold encT
 rw [mulM_get _ _ _ (by rw [codeM_length]; omega), Gf.ci_length, mulRow_length, e0]
 exact ⟨this.1, this.2.1⟩
theorem checkPieces_calls (d q : Int) (v : Value) (m : List (List Int)) (w : World) (hT : Gf.Tab w) (h : RdM w v m) :
    Calls Tryz.prog 68 #[.int .i64 d, .int .i64 q, v] w fun e w' => e = .returned (.tuple #[.bool (chkR d q m).1, .bool (chkR d q m).2]) ∧ Below w.heap.size w w' := by
 have R := hide h
 have T := hide hT
 obtain ⟨a, cap, rfl, hcap, _⟩ := h
 clear hT
 cases hc : chkOk d q m with
 | false =>
  have e : chkR d q m = (false, false) := by simp [chkR, hc]
  rw [e]
  have C := hide hc
  clear hc e
  go_enter Tryz.func68, Tryz.ntmps68
  go_wp2_with fail
  refine (areCodePieces_calls d q _ m _ R.out).mono ?_
  rw [C.out]
  rintro e w1 ⟨rfl, hb⟩
  have B := hide hb
  clear hb
  go_wp2
  go_ret2
  exact ⟨rfl, B.out⟩
 | true =>
  obtain ⟨c1, c2, c3⟩ := chkOk_facts hc
  obtain ⟨f1, f2, f3, f4⟩ := codeOk_facts c1
  have C := hide hc
  obtain ⟨D, rfl⟩ := Int.eq_ofNat_of_zero_le (show 0 ≤ d by omega)
  obtain ⟨Q, rfl⟩ := Int.eq_ofNat_of_zero_le (show 0 ≤ q by omega)
  have hl : m.length = D + Q := by omega
  obtain ⟨z, hz⟩ : ∃ z, z = unlTo m (encT D Q m) m.length := ⟨_, rfl⟩
  have e : chkR (D : Int) (Q : Int) m = (decide (((z : Nat) : Int) = 0), true) := by simp only [chkR, if_pos hc, Int.toNat_natCast, hz]
  rw [e]
  have er := encT_rows c3 (by omega) hl
  have ER := hide er
  have PT := hide (pieces_take c3 D (by omega) (by omega))
  have TL : Hid ((m.take D).length = D) := by show (m.take D).length = D; simp; omega
  have HZ := hide hz
  have HL := hide hl
  have i0 : (0 : Int) ≤ (D : Int) := by omega
  have i1 : (D : Int) ≤ (cap : Int) := by omega
  clear hc c1 c2 c3 e er hz hl
  go_enter Tryz.func68, Tryz.ntmps68
  go_wp2_with fail
  refine (areCodePieces_calls _ _ _ m _ R.out).mono ?_
  rw [C.out]
  rintro e w1 ⟨rfl, hb⟩
  have B := hide hb
  clear hb
  have R1 := hide (R.out.below B.out)
  have RT : Hid (RdM w1 (.slice a D cap) (m.take D)) := rdM_take R1.out D (by have := HL.out; omega)
  have EN : Hid (Calls Tryz.prog 110 #[.slice a D cap, .int .i64 (Q : Nat)] w1 fun e w' => ∃ v', e = .returned v' ∧ Mat w' w1.heap.size w'.heap.size v' (encT D Q m) ∧ Below w1.heap.size w1 w') := by
   have := encode_calls _ (m.take D) Q w1 (Gf.Tab.below T.out B.out) RT.out PT.out (by rw [TL.out]; omega) (by rw [TL.out]; omega) (by omega) (by omega)
   rw [TL.out] at this
   exact this
  go_wp2_with fail
  refine EN.out.mono ?_
  rintro e w2 ⟨v2, rfl, hm2, hb2⟩
  have M2 := hide hm2.rd
  have B2 := hide (B.out.trans (hb2.mono B.out.size))
  have R2 := hide (R1.out.below hb2)
  clear hm2 hb2
  go_wp2_with fail
  refine (countUnlike_calls _ _ m (encT D Q m) m.length _ R2.out M2.out rfl ER.out.1 (by rw [HL.out]; omega) ER.out.2).mono ?_
  rw [← HZ.out]
  rintro e w3 ⟨rfl, hb3⟩
  have B3 := hide (B2.out.trans (hb3.mono B2.out.size))
  clear hb3
  go_wp2
  go_ret2
  refine ⟨?_, B3.out⟩
  have eb : (((z : Nat) : Int) == 0) = decide (z = 0) := by rw [Bool.eq_iff_iff]; simp only [beq_iff_eq, decide_eq_true_eq]; omega
  simp [eb]
end Go.Proofs.YthdbacihhmilbaaGreatDoor

/-
  'append(l, k)': one integer behind a row of the call's own, and where it lies then. No call is walked here. A journal's states: the model's l15State, l15Bytes, StateBytes, StateFrom, l15Half and HalfOf, call by call. Each contract says what it asks. What a journal's disk tells: the program's readFrameAt as one, halfOn, call by call. Each contract says what it asks. What a sector tells, by the model: l7Read, call by call. The contract says what it asks.
-/
import Derived.Test.YtpgmocogffolaaaRecoverFromB4
import Derived.Deep.AppendLies
import Derived.Test.YtpgmocogffolaaaRecoverFromB15
import Derived.Test.YtpgmocogffolaaaRecoverFromB13
import Derived.Test.YtpgmocogffolaaaRecoverFromB6
import Derived.Test.YtpgmocogffolaaaRecoverFromB10
namespace Go.Proofs.Ytpgmocogffolaaa
open Go.RowKit
/-- One integer behind a row of the call's own, and where it lies then. -/
theorem wpList_append_int1 {w : World} {ops : Array Oper} {rest : List Oper} {o : Oper} {a : Act} {Q : Exit → Act → World → Prop} (hgd : o.guard = none) (s x : Operand)
    (ho : o.op = .call { callee := .builtin .append, args := #[s, x], argTypes := #[27, 27] })
    (base : Nat) (v : Value) (n : Nat) (xs : List Int) (z : Int) (hs : a.eval s = v) (hown : w.ownsRow base 3 1 v n (xs.map (Value.int .i64))) (gx : Nat) (hx : a.eval x = .slice (some ⟨gx, 0, none⟩) 1 1) (hc : w.cell? ⟨gx, 0, none⟩ = some (.int .i64 z))
    (hm : n ≤ 1000) (hbase : base ≤ w.heap.size)
    (h : ∀ g cap w', w'.ownsRow base 3 1 (.slice (some ⟨g, 0, none⟩) (n + 1) cap) (n + 1) ((xs ++ [z]).map (Value.int .i64)) → w.grownBy w' v.ownBlock → (v.ownBlock = some g ∨ g = w.heap.size) → g < w'.heap.size → wpList Try.prog ops Q rest (a.put o.dst (.slice (some ⟨g, 0, none⟩) (n + 1) cap)) w') : wpList Try.prog ops Q (o :: rest) a w := by
  obtain ⟨i0, hi, hz0, hz1, hz2⟩ := info_parts infoInt
  refine wpList_append_lies (w := w) hgd s x _ ho base _ i0 (.int .i64 0) 1 8 Try.underlying27 hi hz0 hz1 hz2 rfl (by decide) v n _ hs hown ⟨gx, 0, none⟩ 1 1 ([z].map (Value.int .i64)) hx (by simp) ?_ (ints_oneCell _ _) (by decide) (by unfold maxLen; omega) (by omega) hbase _ rfl ?_
  · intro j u hu
    have : j = 0 := by
      have := (List.getElem?_eq_some_iff.1 hu).1
      simpa using this
    subst this
    simp at hu
    subst hu
    simpa [Addr.add] using hc
  · intro g cap w' h1 h2 h3 h4
    rw [← List.map_append] at h1
    exact h g cap w' h1 h2 h3 h4
end Go.Proofs.Ytpgmocogffolaaa

namespace Go.Proofs.Ytpgmocogffolaaa
open Go.RowKit
set_option linter.unusedVariables false
set_option linter.unusedSimpArgs false

theorem jIn_calls (x a b : Int) (t : Bool) (w : World) (ht : t = true ↔ (a ≤ x ∧ x ≤ b)) :
    Calls Try.prog 74 #[.int .i64 x, .int .i64 a, .int .i64 b] w fun e w' => e = .returned (.bool t) ∧ w = w' := by
  cases t with
  | true => exact l1In_yes x a b w (ht.1 rfl).1 (ht.1 rfl).2
  | false =>
    refine l1In_no x a b w ?_
    have h : ¬ (a ≤ x ∧ x ≤ b) := fun h => by have := ht.2 h; simp at this
    omega
set_option maxRecDepth 100000 in
set_option maxHeartbeats 800000 in
theorem l15State_calls (v : Value) (ks : List Int) (y : Bool) (w : World) (hv : Rd w v ks) (hy : y = true ↔ jsP ks) :
    Calls Try.prog 73 #[v] w fun e w' => e = .returned (.bool y) ∧ w = w' := by
  have R := hide hv
  have HY := hide hy
  obtain ⟨a, cap, rfl, mh, hcm, _⟩ := hv
  have hm := hcm.1
  unfold maxLen at hm
  clear hy hcm
  go_enter Try.func73, Try.ntmps73
  go_wp2
  go_loop [7] (fun vi => ∃ k : Nat, k ≤ ks.length ∧ vi = .int .i64 k ∧ ∀ i, i < k → 0 ≤ ks.getD i 0 ∧ ks.getD i 0 ≤ 65535) (fun vi => ks.length - (intOf vi).toNat)
  case atStart => exact ⟨0, Nat.zero_le _, rfl, fun i hi => by omega⟩
  case round =>
    obtain ⟨k, hk, rfl, hall⟩ := hrel
    have A := hide hall
    clear hall
    by_cases hlt : k < ks.length
    · have hlt' : (k : Int) < (ks.length : Int) := by omega
      obtain ⟨b, off, rfl, hc1⟩ := rdAtJ R.out k hlt
      have X0 := hide (fun h : ∀ i, i < ks.length → 0 ≤ ks.getD i 0 ∧ ks.getD i 0 ≤ 65535 => h k hlt)
      have X1 := hide (fun (h : 0 ≤ ks.getD k 0 ∧ ks.getD k 0 ≤ 65535) i (hi : i < k + 1) => if e : i = k then (by rw [e]; exact h : 0 ≤ ks.getD i 0 ∧ ks.getD i 0 ≤ 65535) else A.out i (by omega))
      generalize ks.getD k 0 = x at hc1 X0 X1
      obtain ⟨q, hq⟩ := bol_exJ (0 ≤ x ∧ x ≤ 65535)
      have HC := hide (fun W => jIn_calls x 0 65535 q W hq)
      cases q with
      | true =>
        have HQ := hide (hq.1 rfl)
        clear hq
        go_wp2_with (go_at_call 74; refine (HC.out _).mono ?_; rintro e w' ⟨rfl, rfl⟩)
        go_round
        case rel => exact ⟨k + 1, by omega, by go_num, X1.out HQ.out⟩
        case measure => simp [intOf]; omega
      | false =>
        have HQ : Hid (¬ (0 ≤ x ∧ x ≤ 65535)) := fun h => by have := hq.2 h; simp at this
        clear hq
        go_wp2_with (go_at_call 74; refine (HC.out _).mono ?_; rintro e w' ⟨rfl, rfl⟩)
        go_ret
        obtain rfl : y = false := by
          cases y with
          | false => rfl
          | true => exact absurd (X0.out (HY.out.1 rfl).1) HQ.out
        exact ⟨rfl, rfl⟩
    · obtain rfl : k = ks.length := by omega
      by_cases h6 : ks.length = 6
      · obtain rfl : y = true := HY.out.2 ⟨A.out, h6⟩
        have h6' : (ks.length : Int) = 6 := by omega
        clear h6
        go_wp2
        go_ret
        exact ⟨rfl, rfl⟩
      · obtain rfl : y = false := by
          cases y with
          | false => rfl
          | true => exact absurd (HY.out.1 rfl).2 h6
        have h6' : ¬ (ks.length : Int) = 6 := by omega
        have h6b : ((ks.length : Int) == 6) = false := by simp; omega
        clear h6
        go_wp2
        go_ret
        exact ⟨rfl, rfl⟩
theorem hiB_two (x : Nat) (h : x < 65536) : hiB x 2 = [x / 256, x % 256] := by
  show [x / 256 % 256, x % 256] = _
  rw [Nat.mod_eq_of_lt (by omega)]
set_option maxRecDepth 100000 in
set_option maxHeartbeats 1600000 in
theorem l15Bytes_calls (v : Value) (vs : List Int) (w : World) (h : Rd w v vs) (J0 : jsP vs) :
    Calls Try.prog 123 #[v] w fun e w' => ∃ v', e = .returned v' ∧ OwnT w' w.heap.size v' (jsT vs) ∧ Below w.heap.size w w' := by
  have R := hide h
  have J := hide J0
  have H6 : Hid (vs.length = 6) := J0.2
  obtain ⟨a, cap, rfl, mh, hcm, _⟩ := h
  have hm := hcm.1
  unfold maxLen at hm
  clear hcm J0
  have OL : Hid (∀ W : World, w.heap.size ≤ W.heap.size → OwnT (W.alloc (.cells #[.string (ofN ((jsB vs).take 6)), .string (ofN ((jsB vs).drop 6))] 9)) w.heap.size (.slice (some ⟨W.heap.size, 0, none⟩) 2 2) (jsT vs)) := by
    show ∀ W : World, _
    intro W hW
    have := World.ownsRow_lit (base := w.heap.size) (e := 9) (size := 1) W #[.string (ofN ((jsB vs).take 6)), .string (ofN ((jsB vs).drop 6))] 2 hW (by unfold maxLen; omega) (by simp)
    simpa [jsT, OwnT] using this
  go_enter Try.func123, Try.ntmps123
  go_wp2
  go_loopw [3, 8] (fun vx vk wr => ∃ k : Nat, vk = .int .i64 k ∧ k ≤ vs.length ∧ vx = .string (ofN (jsB (vs.take k))) ∧ Below w.heap.size w wr) (fun _ vk _ => vs.length - (intOf vk).toNat)
  case atStart => exact ⟨0, rfl, Nat.zero_le _, rfl, Below.refl _ _⟩
  case round =>
    obtain ⟨k, rfl, hk, rfl, hb⟩ := hrel
    have HB := hide hb
    clear hb
    by_cases hlt : k < vs.length
    · have hlt' : (k : Int) < (vs.length : Int) := by omega
      obtain ⟨b, off, rfl, hc1⟩ := rdAtJ (R.out.below HB.out) k hlt
      have hx := J.out.1 k hlt
      have e : vs.take (k + 1) = vs.take k ++ [vs.getD k 0] := by
        rw [List.take_succ_eq_append_getElem (by omega), List.getD_eq_getElem?_getD, List.getElem?_eq_getElem (by omega)]
        rfl
      obtain ⟨x, hx2⟩ : ∃ x : Nat, vs.getD k 0 = (x : Int) := ⟨(vs.getD k 0).toNat, by omega⟩
      rw [hx2] at hc1 hx e
      have NX : Hid (ofN (jsB (vs.take k)) ++ ofN (hiB x 2) = ofN (jsB (vs.take (k + 1)))) := by
        show _ = _
        rw [e, jsB_app, ofN_append, hiB_two x (by omega)]
        rfl
      have hx65 : x < 4294967296 := by omega
      obtain ⟨T, hT⟩ : ∃ T, T = ofN (jsB (vs.take k)) := ⟨_, rfl⟩
      have hts : ¬ 9223372036854775807 < T.size + (ofN (hiB x 2)).size := by
        rw [hT, ofN_size, ofN_size, jsB_len, hiB_length, List.length_take]
        have := H6.out
        omega
      rw [← hT] at NX ⊢
      clear hx2 hx e hT
      go_wp2_with fail
      refine (hi2_calls x _ hx65).mono ?_
      rintro e w1 ⟨rfl, b1⟩
      have B1 := hide (HB.out.trans (b1.mono HB.out.size))
      clear b1
      go_wp2
      rw [NX.out]
      go_roundw
      case rel => exact ⟨k + 1, by go_num, by omega, rfl, B1.out⟩
      case measure => simp [intOf]; omega
    · obtain rfl : k = vs.length := by omega
      rw [List.take_length]
      have e1 := ext_take (jsB vs) 6
      have hl : (jsB vs).length = 12 := by rw [jsB_len, H6.out]
      have e2 := ext_drop (jsB vs) 6 12 hl.symm
      have hs : (ofN (jsB vs)).size = 12 := by rw [ofN_size]; exact hl
      generalize ofN (jsB vs) = S at e1 e2 hs
      clear hl
      have h6 : (6 : Int) ≤ (S.size : Int) := by omega
      have h6n : 6 ≤ S.size := by omega
      go_wp2
      go_region
      go_wp2
      go_ret
      exact ⟨_, rfl, OL.out _ HB.out.size, (HB.out.drew).alloc HB.out.size _⟩
theorem val_two (L : List Nat) (k : Nat) (h : 2 * k + 1 < L.length) : ((valB ((L.drop (2 * k)).take 2) : Nat) : Int) = jvN L k := by
  have e : (L.drop (2 * k)).take 2 = [L.getD (2 * k) 0, L.getD (2 * k + 1) 0] := by
    rw [List.drop_eq_getElem_cons (by omega), List.drop_eq_getElem_cons (by omega)]
    simp only [List.take_succ_cons, List.take_zero, List.getD_eq_getElem?_getD]
    rw [List.getElem?_eq_getElem (by omega), List.getElem?_eq_getElem (by omega)]
    rfl
  rw [e]
  unfold jvN
  simp [valB]
set_option maxRecDepth 100000 in
set_option maxHeartbeats 1600000 in
theorem sStateFrom_calls (v : Value) (l : List ByteArray) (t : Bool) (w : World) (h : RdT w v l) (ht : t = true ↔ jfP l) :
    Calls Try.prog 115 #[v] w fun e w' => ∃ v', e = .returned (.tuple #[v', .bool t]) ∧ Own w' w.heap.size v' (sfR t l) ∧ Below w.heap.size w w' := by
  obtain ⟨a, cap, rfl, h1, h2, h4, h3⟩ := h
  have hm : l.length ≤ maxLen := by omega
  unfold maxLen at hm
  by_cases hl : l.length = 2
  case neg =>
    have hl' : ¬ (l.length : Int) = 2 := by omega
    have hlb : ((l.length : Int) != 2) = true := by simp; omega
    obtain rfl : t = false := by cases t with | false => rfl | true => exact absurd (ht.1 rfl).1 hl
    show Calls _ _ _ _ fun e w' => ∃ v', e = .returned (.tuple #[v', .bool false]) ∧ Own w' w.heap.size v' [] ∧ _
    clear ht hl h1 h2 h3 h4
    go_enter Try.func115, Try.ntmps115
    go_wp2
    go_ret2
    exact ⟨_, rfl, World.ownsRow_nil _ _ _ _, Below.refl _ _⟩
  match l, hl with
  | [x, y], _ =>
    rcases h3 with h3 | ⟨b, off, rfl, hbs, hc⟩
    · simp at h3
    have c0 := hc 0 (by simp)
    have c1 := hc 1 (by simp)
    simp only [List.getD_cons_zero, List.getD_cons_succ, Nat.add_zero] at c0 c1
    have zx := h4 x (by simp)
    have zy := h4 y (by simp)
    unfold maxLen at zx zy
    clear h1 h2 h4 hc hm
    show Calls _ _ #[.slice _ 2 cap] _ _
    by_cases hx : x.size = 6
    case neg =>
      have hx' : ¬ (x.size : Int) = 6 := by omega
      have hxb : ((x.size : Int) != 6) = true := by simp; omega
      obtain rfl : t = false := by cases t with | false => rfl | true => exact absurd ((ht.1 rfl).2 0 (by simp)) hx
      show Calls _ _ _ _ fun e w' => ∃ v', e = .returned (.tuple #[v', .bool false]) ∧ Own w' w.heap.size v' [] ∧ _
      clear ht hx
      go_enter Try.func115, Try.ntmps115
      go_wp2
      go_ret2
      exact ⟨_, rfl, World.ownsRow_nil _ _ _ _, Below.refl _ _⟩
    have hx' : (x.size : Int) = 6 := by omega
    have hxb : ((x.size : Int) != 6) = false := by simp; omega
    by_cases hy : y.size = 6
    case neg =>
      have hy' : ¬ (y.size : Int) = 6 := by omega
      have hyb : ((y.size : Int) != 6) = true := by simp; omega
      obtain rfl : t = false := by cases t with | false => rfl | true => exact absurd ((ht.1 rfl).2 1 (by simp)) hy
      show Calls _ _ _ _ fun e w' => ∃ v', e = .returned (.tuple #[v', .bool false]) ∧ Own w' w.heap.size v' [] ∧ _
      clear ht hx hy
      go_enter Try.func115, Try.ntmps115
      go_wp2
      go_ret2
      exact ⟨_, rfl, World.ownsRow_nil _ _ _ _, Below.refl _ _⟩
    have hy' : (y.size : Int) = 6 := by omega
    have hyb : ((y.size : Int) != 6) = false := by simp; omega
    obtain rfl : t = true := ht.2 ⟨rfl, fun i hi => by
      have : i = 0 ∨ i = 1 := by simp at hi; omega
      rcases this with rfl | rfl
      · exact hx
      · exact hy⟩
    show Calls _ _ _ _ fun e w' => ∃ v', e = .returned (.tuple #[v', .bool true]) ∧ Own w' w.heap.size v' (jvB (bs x ++ bs y) 6) ∧ _
    obtain ⟨L, hL⟩ : ∃ L, L = bs x ++ bs y := ⟨_, rfl⟩
    have SM : Hid (∀ q ∈ L, q < 256) := by
      show ∀ q ∈ L, _
      intro q hq
      rw [hL, List.mem_append] at hq
      rcases hq with hq | hq
      · exact bs_lt _ q hq
      · exact bs_lt _ q hq
    have E12 : Hid (L.length = 12) := by show _ = _; rw [hL, List.length_append, bs_length, bs_length, hx, hy]
    have EX : Hid (x ++ y = ofN L) := by show _ = _; rw [hL, ← ofN_append, ofN_bs, ofN_bs]
    rw [← hL]
    have hts : ¬ 9223372036854775807 < x.size + y.size := by omega
    clear ht hx hy hL
    go_enter Try.func115, Try.ntmps115
    go_wp2
    go_quiet (fail)
    rw [EX.out]
    have SZ : (ofN L).size = 12 := by rw [ofN_size]; exact E12.out
    have LB : Hid (bs (ofN L) = L) := bs_ofN SM.out
    generalize ofN L = s at SZ LB ⊢
    have bq := below_drewN' (w := w) nq
    generalize w.drewN nq = w0 at bq ⊢
    have BQ := hide bq
    have hw0 : w.heap.size ≤ w0.heap.size := bq.size
    clear bq
    go_wp2
    go_loopw [5, 6] (fun vo vk wr => ∃ k : Nat, vk = .int .i64 k ∧ k ≤ 6 ∧ wr.ownsRow w.heap.size 3 1 vo k ((jvB L k).map (Value.int .i64)) ∧ Below w.heap.size w wr) (fun _ vk _ => 6 - (intOf vk).toNat)
    case atStart => exact ⟨0, rfl, by omega, World.ownsRow_nil _ _ _ _, BQ.out⟩
    case round =>
      obtain ⟨k, rfl, hk, ho, hb⟩ := hrel
      have O := hide ho
      have HB := hide hb
      clear hb BQ
      obtain ⟨ao, co, rfl⟩ := row_slice ho
      by_cases hlt : k < 6
      · have hlt' : (k : Int) < 6 := by omega
        have e1 := bs_mid s (2 * k) (2 * k + 2)
        rw [LB.out, show 2 * k + 2 - 2 * k = 2 by omega] at e1
        have e2 : ((valB (bs (s.extract (2 * k) (2 * k + 2))) : Nat) : Int) = jvN L k := by rw [e1]; exact val_two L k (by rw [E12.out]; omega)
        have z2 : (s.extract (2 * k) (2 * k + 2)).size ≤ 2 := by
          rw [← bs_length, e1, List.length_take]
          omega
        obtain ⟨y2, hy2⟩ : ∃ y2, y2 = 2 * k := ⟨_, rfl⟩
        rw [← hy2] at e2 z2
        have LV := hide (l6Value_calls (s.extract y2 (y2 + 2)) wr z2)
        rw [e2] at LV
        have m1 : (2 : Int) * (k : Int) = (y2 : Int) := by omega
        have t1 : (y2 : Int) + 2 ≤ (s.size : Int) := by omega
        have t2 : ((y2 : Int) + 2).toNat = y2 + 2 := by omega
        have t3 : y2 + 2 ≤ s.size := by omega
        have t4 : (y2 : Int) ≤ (y2 : Int) + 2 := by omega
        clear e1 e2 z2 hy2 ho
        go_wp2_with fail
        refine LV.out.mono ?_
        rintro e w4 ⟨rfl, rfl⟩
        have JS := hide (jvB_succ L k)
        have HBa := hide (HB.out.alloc HB.out.size (.cells #[.int .i64 (jvN L k)] 3))
        have Oa := hide (ownsRow_below O.out (below_box wr (.cells #[.int .i64 (jvN L k)] 3)))
        generalize jvN L k = z at JS HBa Oa ⊢
        have Wa : Hid (w.heap.size ≤ (wr.alloc (.cells #[.int .i64 z] 3)).heap.size) := HBa.out.size
        clear m1 t1 t2 t3 t4 LV
        go_wp2_with (at_builtin; refine wpList_append_int1 rfl _ _ rfl w.heap.size _ k (jvB L k) z rfl Oa.out wr.heap.size rfl (World.cell?_alloc_at _ _ _ _ (by simp)) (by omega) Wa.out ?_)
        intro g9 c9 w9 o9 gr9 _ _
        have O9 : Hid (w9.ownsRow w.heap.size 3 1 (.slice (some ⟨g9, 0, none⟩) (k + 1) c9) (k + 1) ((jvB L (k + 1)).map (Value.int .i64))) := by
          show World.ownsRow _ _ _ _ _ _ _
          rw [JS.out]
          simpa using o9
        have B9 := hide (HBa.out.grown gr9 Wa.out (fun j hj => (World.ownsRow.lt Oa.out j hj).1))
        clear o9 gr9 O HB HBa Oa Wa
        go_wp2
        go_roundw
        case rel => exact ⟨k + 1, by go_num, by omega, O9.out, B9.out⟩
        case measure => simp [intOf]; omega
      · obtain rfl : k = 6 := by omega
        clear ho
        go_wp2
        go_ret2
        exact ⟨_, rfl, O.out, HB.out⟩

set_option maxRecDepth 100000 in
theorem l15Half_calls (e : Int) (w : World) (h0 : 0 ≤ e) (h1 : e ≤ 60000) :
    Calls Try.prog 92 #[.int .i64 e] w fun x w' => x = .returned (.int .i64 (hlf e)) ∧ w = w' := by
  obtain ⟨n, rfl⟩ : ∃ n : Nat, e = (n : Int) := ⟨e.toNat, by omega⟩
  have hh : hlf (n : Int) = 1 ∧ n % 2 = 0 ∨ hlf (n : Int) = 3 ∧ n % 2 = 1 := by unfold hlf; omega
  clear h0
  rcases hh with ⟨ha, hb⟩ | ⟨ha, hb⟩
  · have HA := hide ha
    have hm : (n : Int).tmod 2 = 0 := (Int.tmod_eq_emod_of_nonneg (by omega)).trans (by omega)
    have hm2 : (n : Int) % 2 = 0 := by omega
    clear ha
    go_enter Try.func92, Try.ntmps92
    go_wp2
    go_ret
    exact ⟨by rw [HA.out]; rfl, rfl⟩
  · have HA := hide ha
    have hm : (n : Int).tmod 2 = 1 := (Int.tmod_eq_emod_of_nonneg (by omega)).trans (by omega)
    have hm2 : (n : Int) % 2 = 1 := by omega
    clear ha
    go_enter Try.func92, Try.ntmps92
    go_wp2
    go_ret
    exact ⟨by rw [HA.out]; rfl, rfl⟩
set_option maxRecDepth 100000 in
theorem sHalfOf_calls (e : Int) (t : Bool) (w : World) (ht : t = true ↔ (0 ≤ e ∧ e ≤ 60000)) :
    Calls Try.prog 33 #[.int .i64 e] w fun x w' => x = .returned (.tuple #[.int .i64 (bif t then hlf e else 0), .bool t]) ∧ w = w' := by
  have IN := hide (fun W => jIn_calls e 0 60000 t W ht)
  cases t with
  | false =>
    clear ht
    go_enter Try.func33, Try.ntmps33
    go_wp2_with fail
    refine (IN.out _).mono ?_
    rintro x w1 ⟨rfl, rfl⟩
    go_wp2
    go_ret2
    exact ⟨rfl, rfl⟩
  | true =>
    have HF := hide (fun W => l15Half_calls e W (ht.1 rfl).1 (ht.1 rfl).2)
    clear ht
    show Calls _ _ _ _ fun x w' => x = .returned (.tuple #[.int .i64 (hlf e), .bool true]) ∧ _
    generalize hlf e = q at HF ⊢
    go_enter Try.func33, Try.ntmps33
    go_wp2_with fail
    refine (IN.out _).mono ?_
    rintro x w1 ⟨rfl, rfl⟩
    go_wp2_with fail
    refine (HF.out _).mono ?_
    rintro x w1 ⟨rfl, rfl⟩
    go_wp2
    go_ret2
    exact ⟨rfl, rfl⟩
end Go.Proofs.Ytpgmocogffolaaa

namespace Go.Proofs.Ytpgmocogffolaaa
open Go.RowKit
set_option linter.unusedVariables false
set_option linter.unusedSimpArgs false

theorem readFrameAt_fa (p h b : Value) (P H : List ByteArray) (B : List Bool) (kind A least : Int) (w : World) (gk : gkP P H B) (hA : 0 ≤ A ∧ A < (P.length : Int)) (hp : RdT w p P) (hh : RdT w h H) (hb : RdZ w b B) :
    Calls Try.prog 68 #[.agg #[p, h, b], .int .i64 kind, .int .i64 A, .int .i64 least] w fun e w' => e = .returned (frA (fa P H B kind A least)) ∧ Below w.heap.size w w' := by
  unfold fa
  by_cases hB : B.getD A.toNat false = true
  · rw [if_pos hB]
    exact readFrameAt_no p h b P H B kind A least w (fun h => absurd h.2.2 (by rw [hB]; simp)) hp hh hb
  · rw [if_neg hB]
    exact readFrameAt_yes p h b P H B kind A least w ⟨gk, hA, by simpa using hB⟩ hp hh hb
theorem fa_small (P H : List ByteArray) (B : List Bool) (kind A least : Int) : (fa P H B kind A least).B.size ≤ 16 := by
  unfold fa
  split
  · exact Nat.zero_le _
  · exact ckR_small _ _ _ _
/-- Both sectors of a half tell that Epoch, and the bytes of a state. -/
def hfP (P H : List ByteArray) (B : List Bool) (e : Int) : Prop :=
  ((fa2 P H B e 0).ok = true ∧ (fa2 P H B e 0).E = e) ∧ ((fa2 P H B e 1).ok = true ∧ (fa2 P H B e 1).E = e) ∧ (fa2 P H B e 0).B.size = 6 ∧ (fa2 P H B e 1).B.size = 6
def hfV (P H : List ByteArray) (B : List Bool) (e : Int) : List Int := jsV [(fa2 P H B e 0).B, (fa2 P H B e 1).B]
/-- The bodies so far, and empty texts. -/
def bdT (P H : List ByteArray) (B : List Bool) (e : Int) : Nat → List ByteArray
  | 0 => [⟨#[]⟩, ⟨#[]⟩]
  | k + 1 => (bdT P H B e k).set k (fa2 P H B e k).B
theorem bdT_len (P H : List ByteArray) (B : List Bool) (e : Int) : ∀ k, (bdT P H B e k).length = 2
  | 0 => rfl
  | k + 1 => by rw [bdT, List.length_set, bdT_len]
theorem bdT_two (P H : List ByteArray) (B : List Bool) (e : Int) : bdT P H B e 2 = [(fa2 P H B e 0).B, (fa2 P H B e 1).B] := rfl
theorem bdT_small (P H : List ByteArray) (B : List Bool) (e : Int) : ∀ k, ∀ s ∈ bdT P H B e k, s.size ≤ 16
  | 0 => fun s hs => by
    simp [bdT] at hs
    subst hs
    exact Nat.zero_le _
  | k + 1 => fun s hs => by
    rw [bdT] at hs
    rcases List.mem_or_eq_of_mem_set hs with h | h
    · exact bdT_small P H B e k s h
    · rw [h]; exact fa_small _ _ _ _ _ _
set_option maxRecDepth 100000 in
set_option maxHeartbeats 3200000 in
theorem halfOn_calls (p h b : Value) (P H : List ByteArray) (B : List Bool) (e : Int) (ok : Bool) (w : World) (gk : gkP P H B) (h5 : P.length = 5) (he : 0 ≤ e ∧ e ≤ 60000) (hp : RdT w p P) (hh : RdT w h H) (hb : RdZ w b B) (hok : ok = true ↔ hfP P H B e) :
    Calls Try.prog 69 #[.agg #[p, h, b], .int .i64 e] w fun x w' => ∃ v', x = .returned (.tuple #[v', .bool ok]) ∧ Own w' w.heap.size v' (bif ok then hfV P H B e else []) ∧ Below w.heap.size w w' := by
  obtain ⟨ap, cp, rfl, _, _⟩ := hp.sl
  obtain ⟨ah, ch, rfl, _, _⟩ := hh.sl
  obtain ⟨ab, cb, rfl, _, _⟩ := hb.sl
  have b0 := below_box w (.cells #[.slice ap P.length cp, .slice ah H.length ch, .slice ab B.length cb] 30)
  have A0 := hide ((Hand.start w).box #[.slice ap P.length cp, .slice ah H.length ch, .slice ab B.length cb] 30)
  have RP := hide hp
  have RH := hide hh
  have RB := hide hb
  have HO := hide (fun W => halfOf_calls e true W ⟨fun _ => he, fun _ => rfl⟩)
  change Hid (∀ W, Calls _ _ _ _ fun x w' => x = .returned (.tuple #[.int .i64 (hlf e), .bool true]) ∧ _) at HO
  obtain ⟨hf, ehf, h13⟩ : ∃ hf : Nat, hlf e = (hf : Int) ∧ (hf = 1 ∨ hf = 3) := ⟨(hlf e).toNat, by have := hlf_in (e := e); omega, by have := hlf_in (e := e); omega⟩
  have RF : Hid (∀ k : Nat, k < 2 → ∀ W, RdT W (.slice ap P.length cp) P → RdT W (.slice ah H.length ch) H → RdZ W (.slice ab B.length cb) B → Calls Try.prog 68 #[.agg #[.slice ap P.length cp, .slice ah H.length ch, .slice ab B.length cb], .int .i64 3, .int .i64 ((hf : Int) + (k : Int)), .int .i64 e] W fun x w' => x = .returned (frA (fa2 P H B e k)) ∧ Below W.heap.size W w') := by
    show ∀ k : Nat, _
    intro k hk W q1 q2 q3
    have r := readFrameAt_fa (.slice ap P.length cp) (.slice ah H.length ch) (.slice ab B.length cb) P H B 3 (hlf e + (k : Int)) e W gk ⟨by omega, by omega⟩ q1 q2 q3
    rw [show fa P H B 3 (hlf e + (k : Int)) e = fa2 P H B e k from rfl, ehf] at r
    exact r
  have HOK := hide hok
  rw [ehf] at HO
  have EF := hide ehf
  have BL := hide (bdT_len P H B e)
  have BSm := hide (bdT_small P H B e)
  obtain ⟨t, ht⟩ := bol_exJ (jfP (bdT P H B e 2))
  have SF := hide (fun v W q => stateFrom_calls v (bdT P H B e 2) t W q ht)
  have HT : Hid (t = true ↔ ((fa2 P H B e 0).B.size = 6 ∧ (fa2 P H B e 1).B.size = 6)) := by
    refine ht.trans ?_
    rw [bdT_two]
    constructor
    · intro h
      exact ⟨h.2 0 (by simp), h.2 1 (by simp)⟩
    · intro h
      refine ⟨rfl, fun i hi => ?_⟩
      have : i = 0 ∨ i = 1 := by simp at hi; omega
      rcases this with rfl | rfl
      · exact h.1
      · exact h.2
  clear ht
  clear hp hh hb hok h5 gk ehf he b0 EF
  obtain ⟨x0, x1, x2⟩ := (A0.out.atBox 0 rfl).c3
  go_enter Try.func69, Try.ntmps69
  go_wp2_with fail
  refine (HO.out _).mono ?_
  rintro x w1 ⟨rfl, rfl⟩
  go_wp2_with (at_make; refine wpList_make_texts rfl _ _ rfl (w.heap.size + 1) _ _ 2 rfl rfl (by omega) (by omega) (by omega) (by simp) ?_)
  intro w2 o2 g2
  have X2 := hide ((A0.out.step (grown_none g2)).atBox 0 rfl)
  have B2 := hide (A0.out.step (grown_none g2)).below
  have O2 : Hid (w2.ownsRow (w.heap.size + 1) 9 1 (.slice (some ⟨w.heap.size + 1, 0, none⟩) 2 2) 2 ((bdT P H B e 0).map Value.string)) := by
    show World.ownsRow _ _ _ _ _ _ _
    simpa [OwnT, bdT] using o2
  clear o2 g2 A0 x0 x1 x2
  go_wp2
  go_loopw [20] (fun vk wr => ∃ k : Nat, vk = .int .i64 k ∧ k ≤ 2 ∧ wr.ownsRow (w.heap.size + 1) 9 1 (.slice (some ⟨w.heap.size + 1, 0, none⟩) 2 2) 2 ((bdT P H B e k).map Value.string) ∧ BoxAt wr w.heap.size #[.slice ap P.length cp, .slice ah H.length ch, .slice ab B.length cb] 30 ∧ Below w.heap.size w wr ∧ ∀ j, j < k → (fa2 P H B e j).ok = true ∧ (fa2 P H B e j).E = e) (fun vk _ => 2 - (intOf vk).toNat)
  case atStart => exact ⟨0, rfl, by omega, O2.out, X2.out, B2.out, fun j hj => by omega⟩
  case round =>
    obtain ⟨k, rfl, hk, ho, hX, hW, hall⟩ := hrel
    have O := hide ho
    have XX := hide hX
    have WW := hide hW
    have AL := hide hall
    have gl : w.heap.size + 1 < wr.heap.size := (World.ownsRow.lt ho (w.heap.size + 1) rfl).2
    clear ho hX hW hall O2 X2 B2
    by_cases hlt : k < 2
    · have hlt' : (k : Int) < 2 := by omega
      obtain ⟨x0, x1, x2⟩ := XX.out.c3
      have CK := hide (RF.out k hlt)
      have FK : Hid (hfP P H B e → (fa2 P H B e k).ok = true ∧ (fa2 P H B e k).E = e) := fun h => by
        have : k = 0 ∨ k = 1 := by omega
        rcases this with rfl | rfl
        · exact h.1
        · exact h.2.1
      have AK : Hid ((fa2 P H B e k).ok = true ∧ (fa2 P H B e k).E = e → ∀ j, j < k + 1 → (fa2 P H B e j).ok = true ∧ (fa2 P H B e j).E = e) := fun h j hj => by
        by_cases ej : j = k
        · rw [ej]; exact h
        · exact AL.out j (by omega)
      have BK : Hid (bdT P H B e (k + 1) = (bdT P H B e k).set k (fa2 P H B e k).B) := rfl
      generalize fa2 P H B e k = c at CK FK AK BK
      rcases c with ⟨K', A', E', bo, code, okk⟩
      simp only [frA] at CK FK AK BK
      have hwb : hf ≤ 3 := by omega
      go_wp2_with fail
      refine (CK.out _ (RP.out.below WW.out) (RH.out.below WW.out) (RB.out.below WW.out)).mono ?_
      rintro x w3 ⟨rfl, q⟩
      have bq := q.trans ((below_box w3 (.cells (frC K' A' E' bo) 69)).mono q.size)
      have N3 := hide (BoxAt.new w3 (frC K' A' E' bo) 69)
      have X3 := hide (XX.out.below bq)
      have W3 := hide (WW.out.trans (bq.mono WW.out.size))
      have O3 := hide (ownsRow_below O.out bq)
      have gl3 : wr.heap.size ≤ (w3.alloc (.cells (frC K' A' E' bo) 69)).heap.size := bq.size
      clear q bq XX WW O CK x0 x1 x2
      obtain ⟨z0, z1, z2, z3⟩ := N3.out.c4
      cases okk with
      | false =>
        obtain rfl : ok = false := by cases ok with | false => rfl | true => have := (FK.out (HOK.out.1 rfl)).1; simp at this
        go_wp2
        go_ret2
        exact ⟨_, rfl, World.ownsRow_nil _ _ _ _, W3.out⟩
      | true =>
        by_cases hE : E' = e
        · have HE := hide hE
          subst hE
          have hEb : (E' != E') = false := by simp
          have st := O3.out.stored k (.string bo)
          rw [← List.map_set, ← BK.out] at st
          have ST := hide st.1
          have c1 := O3.out.cellAt k hlt
          obtain ⟨old, c2⟩ : ∃ old, (w3.alloc (.cells (frC K' A' E' bo) 69)).cell? ⟨w.heap.size + 1, k, none⟩ = some old := by
            rw [c1]
            exact ⟨_, List.getElem?_eq_getElem (by rw [List.length_map, BL.out]; exact hlt)⟩
          have c3 := O3.out.frozenAt k
          have X4 := hide (X3.out.chg (Chg.ofSetCell (lo := w.heap.size + 1) (hi := w.heap.size + 2) _ (w.heap.size + 1) k (.string bo) (Nat.le_refl _) (by omega)) (.inl (by omega)))
          have W4 := hide (W3.out.grown st.2 W3.out.size (fun j hj => by cases hj; omega))
          clear st c1 O3 X3 W3 N3
          go_wp2
          go_roundw
          case rel => exact ⟨k + 1, by go_num, by omega, ST.out, X4.out, W4.out, AK.out (by simp)⟩
          case measure => simp [intOf]; omega
        · have hEb : (E' != e) = true := by simpa using hE
          obtain rfl : ok = false := by cases ok with | false => rfl | true => exact absurd (FK.out (HOK.out.1 rfl)).2 hE
          go_wp2
          go_ret2
          exact ⟨_, rfl, World.ownsRow_nil _ _ _ _, W3.out⟩
    · obtain rfl : k = 2 := by omega
      have oo : OwnT wr (w.heap.size + 1) (.slice (some ⟨w.heap.size + 1, 0, none⟩) 2 2) (bdT P H B e 2) := O.out
      have RT := hide (OwnT.rd oo (fun s hs => Nat.le_trans (BSm.out 2 s hs) (by unfold maxLen; omega)))
      have EQ : ok = t := by
        have h1 := HOK.out
        have h2 := HT.out
        have a0 := AL.out 0 (by omega)
        have a1 := AL.out 1 (by omega)
        have h3 : hfP P H B e ↔ ((fa2 P H B e 0).B.size = 6 ∧ (fa2 P H B e 1).B.size = 6) := ⟨fun h => h.2.2, fun h => ⟨a0, a1, h⟩⟩
        cases ok with
        | true => exact (h2.2 (h3.1 (h1.1 rfl))).symm
        | false =>
          cases t with
          | false => rfl
          | true => have := h1.2 (h3.2 (h2.1 rfl)); simp at this
      subst EQ
      clear oo O XX
      go_wp2_with fail
      refine (SF.out _ _ RT.out).mono ?_
      rintro x w4 ⟨v4, rfl, o4, b4⟩
      have O4 := hide (ownsRow_mono o4 WW.out.size)
      have B4 := hide (WW.out.trans (b4.mono WW.out.size))
      clear o4 b4
      go_wp2
      go_ret2
      exact ⟨_, rfl, O4.out, B4.out⟩

theorem rcv_some {P H : List ByteArray} {B : List Bool} (h1 : (fa P H B 4 0 0).ok = true) (h2 : hfP P H B (fa P H B 4 0 0).E) : rcv P H B = some (hfV P H B (fa P H B 4 0 0).E, (fa P H B 4 0 0).E) := by
  unfold rcv
  rw [if_pos h1]
  exact if_pos h2
theorem rcv_none1 {P H : List ByteArray} {B : List Bool} (h1 : ¬ (fa P H B 4 0 0).ok = true) : rcv P H B = none := by
  unfold rcv
  rw [if_neg h1]
theorem rcv_none2 {P H : List ByteArray} {B : List Bool} (h1 : (fa P H B 4 0 0).ok = true) (h2 : ¬ hfP P H B (fa P H B 4 0 0).E) : rcv P H B = none := by
  unfold rcv
  rw [if_pos h1]
  exact if_neg h2
/-- What RecoverFrom tells, of any disk. -/
def rcG (t : Bool) (P H : List ByteArray) (B : List Bool) : Option (List Int × Int) := bif t then rcv P H B else none
set_option maxRecDepth 100000 in
set_option maxHeartbeats 3200000 in
theorem recoverFrom0_calls (p h b : Value) (P H : List ByteArray) (B : List Bool) (w : World) (gk : gkP P H B) (h5 : P.length = 5) (hp : RdT w p P) (hh : RdT w h H) (hb : RdZ w b B) :
    Calls Try.prog 18 #[.agg #[p, h, b]] w fun x w' => ∃ v', x = .returned (.tuple #[v', .int .i64 (rcE (rcv P H B)), .bool (rcB (rcv P H B))]) ∧ Own w' w.heap.size v' (rcV (rcv P H B)) ∧ Below w.heap.size w w' := by
  obtain ⟨ap, cp, rfl, _, _⟩ := hp.sl
  obtain ⟨ah, ch, rfl, _, _⟩ := hh.sl
  obtain ⟨ab, cb, rfl, _, _⟩ := hb.sl
  have A0 := hide ((Hand.start w).box #[.slice ap P.length cp, .slice ah H.length ch, .slice ab B.length cb] 30)
  have RP := hide hp
  have RH := hide hh
  have RB := hide hb
  have RF := hide (fun W q1 q2 q3 => readFrameAt_fa (.slice ap P.length cp) (.slice ah H.length ch) (.slice ab B.length cb) P H B 4 0 0 W gk ⟨by omega, by omega⟩ q1 q2 q3)
  have EB := fun (h : (fa P H B 4 0 0).ok = true) => fa_E h
  obtain ⟨t, ht⟩ := bol_exJ (hfP P H B (fa P H B 4 0 0).E)
  have HF := hide (fun (h : (fa P H B 4 0 0).ok = true) W q1 q2 q3 => halfOn_calls (.slice ap P.length cp) (.slice ah H.length ch) (.slice ab B.length cb) P H B (fa P H B 4 0 0).E t W gk h5 (EB h) q1 q2 q3 ht)
  have N1 := hide (rcv_none1 (P := P) (H := H) (B := B))
  have N2 := hide (fun h1 (h2 : t = false) => rcv_none2 (P := P) (H := H) (B := B) h1 (fun h => by rw [ht.2 h] at h2; cases h2))
  have S2 := hide (fun h1 (h2 : t = true) => rcv_some (P := P) (H := H) (B := B) h1 (ht.1 h2))
  have h5' : (P.length : Int) = 5 := by omega
  have h5b : ((P.length : Int) != 5) = false := by simp; omega
  clear hp hh hb gk ht EB
  generalize fa P H B 4 0 0 = c at RF HF N1 N2 S2
  rcases c with ⟨K', A', E', bo, code, okk⟩
  simp only [frA] at RF HF N1 N2 S2
  have H5 := hide h5
  clear h5
  obtain ⟨x0, x1, x2⟩ := (A0.out.atBox 0 rfl).c3
  cases okk with
  | false =>
    have e := N1.out (by simp)
    rw [e]
    clear e N1 N2 S2 HF
    show Calls _ _ _ _ fun x w' => ∃ v', x = .returned (.tuple #[v', .int .i64 0, .bool false]) ∧ Own w' w.heap.size v' [] ∧ _
    go_enter Try.func18, Try.ntmps18
    go_wp2_with fail
    refine (RF.out _ (RP.out.below A0.out.below) (RH.out.below A0.out.below) (RB.out.below A0.out.below)).mono ?_
    rintro x w1 ⟨rfl, q⟩
    have A1 := hide ((A0.out.step q).box (frC K' A' E' bo) 69)
    clear q
    go_wp2
    go_ret3
    exact ⟨_, rfl, World.ownsRow_nil _ _ _ _, A1.out.below⟩
  | true =>
    cases t with
    | false =>
      have e := N2.out (by simp) rfl
      rw [e]
      clear e N1 N2 S2
      show Calls _ _ _ _ fun x w' => ∃ v', x = .returned (.tuple #[v', .int .i64 0, .bool false]) ∧ Own w' w.heap.size v' [] ∧ _
      go_enter Try.func18, Try.ntmps18
      go_wp2_with fail
      refine (RF.out _ (RP.out.below A0.out.below) (RH.out.below A0.out.below) (RB.out.below A0.out.below)).mono ?_
      rintro x w1 ⟨rfl, q⟩
      have A1 := hide ((A0.out.step q).box (frC K' A' E' bo) 69)
      clear q A0 x0 x1 x2
      obtain ⟨z0, z1, z2, z3⟩ := (A1.out.atBox 0 rfl).c4
      obtain ⟨x0, x1, x2⟩ := (A1.out.atBox 1 rfl).c3
      go_wp2_with fail
      refine (HF.out (by simp) _ (RP.out.below A1.out.below) (RH.out.below A1.out.below) (RB.out.below A1.out.below)).mono ?_
      rintro x w2 ⟨v2, rfl, o2, q⟩
      have A2 := hide (A1.out.step q)
      clear q o2
      go_wp2
      go_ret3
      exact ⟨_, rfl, World.ownsRow_nil _ _ _ _, A2.out.below⟩
    | true =>
      have e := S2.out (by simp) rfl
      rw [e]
      clear e N1 N2 S2
      show Calls _ _ _ _ fun x w' => ∃ v', x = .returned (.tuple #[v', .int .i64 E', .bool true]) ∧ Own w' w.heap.size v' (hfV P H B E') ∧ _
      go_enter Try.func18, Try.ntmps18
      go_wp2_with fail
      refine (RF.out _ (RP.out.below A0.out.below) (RH.out.below A0.out.below) (RB.out.below A0.out.below)).mono ?_
      rintro x w1 ⟨rfl, q⟩
      have A1 := hide ((A0.out.step q).box (frC K' A' E' bo) 69)
      have S1 : w.heap.size ≤ (w1.alloc (.cells (frC K' A' E' bo) 69)).heap.size := A1.out.below.size
      clear q A0 x0 x1 x2
      obtain ⟨z0, z1, z2, z3⟩ := (A1.out.atBox 0 rfl).c4
      obtain ⟨x0, x1, x2⟩ := (A1.out.atBox 1 rfl).c3
      go_wp2_with fail
      refine (HF.out (by simp) _ (RP.out.below A1.out.below) (RH.out.below A1.out.below) (RB.out.below A1.out.below)).mono ?_
      rintro x w2 ⟨v2, rfl, o2, q⟩
      have A2 := hide (A1.out.step q)
      have O2 := hide (ownsRow_mono o2 S1)
      clear q o2 A1 z0 z1 z2 z3 x0 x1 x2
      obtain ⟨z0, z1, z2, z3⟩ := (A2.out.atBox 0 rfl).c4
      go_wp2
      go_quiet (fail)
      go_wp2
      go_ret3
      exact ⟨_, rfl, ownsRow_below O2.out (below_drewN' _), A2.out.below.trans ((below_drewN' _).mono A2.out.below.size)⟩

theorem recoverFrom_good (p h b : Value) (P H : List ByteArray) (B : List Bool) (w : World) (gk : gkP P H B) (h5 : P.length = 5) (hp : RdT w p P) (hh : RdT w h H) (hb : RdZ w b B) :
    Calls Try.prog 18 #[.agg #[p, h, b]] w fun x w' => ∃ v', x = .returned (.tuple #[v', .int .i64 (rcE (rcv P H B)), .bool (rcB (rcv P H B))]) ∧ Own w' w.heap.size v' (rcV (rcv P H B)) ∧ Below w.heap.size w w' :=
  recoverFrom0_calls p h b P H B w gk h5 hp hh hb
end Go.Proofs.Ytpgmocogffolaaa

namespace Go.Proofs.Ytpgmocogffolaaa
open Go.RowKit
set_option linter.unusedVariables false

set_option maxRecDepth 100000 in
set_option maxHeartbeats 800000 in
theorem l7Read_calls (p h b : Value) (P H : List ByteArray) (B : List Bool) (k : Nat) (w : World) (gk : gkP P H B) (hk : k < P.length) (hp : RdT w p P) (hh : RdT w h H) (hb : RdZ w b B) :
    Calls Try.prog 114 #[.agg #[p, h, b], .int .i64 (k : Int)] w fun e w' => e = .returned (.tuple #[.string (if B.getD k false = true then ⟨#[]⟩ else rsT P H k), .bool (!B.getD k false)]) ∧ Below w.heap.size w w' := by
  have h24 : P.length ≤ 24 := gk.1.2
  have L2 := hide gk.2.1
  have L3 := hide gk.2.2.1
  have hbx := below_box w (.cells #[p, h, b] 30)
  have HB := hide hbx
  obtain ⟨ap, cp, rfl, mp, _⟩ := hp.sl
  obtain ⟨ah, ch, rfl, mh, _⟩ := hh.sl
  obtain ⟨ab, cb, rfl, mb, _⟩ := hb.sl
  obtain ⟨gb, ob, rfl, hcb, _⟩ := (hb.below hbx).cell k (by rw [L3.out]; exact hk)
  obtain ⟨gh, oh, rfl, hch, _⟩ := (hh.below hbx).cell k (by rw [L2.out]; exact hk)
  obtain ⟨gp, op, rfl, hcp, _⟩ := (hp.below hbx).cell k hk
  have i1 : (k : Int) < (B.length : Int) := by rw [L3.out]; omega
  have i2 : (k : Int) < (H.length : Int) := by rw [L2.out]; omega
  have i3 : (k : Int) < (P.length : Int) := by omega
  unfold rsT
  clear hp hh hb gk mp mh mb L2 L3 hbx
  generalize B.getD k false = y at *
  generalize H.getD k ⟨#[]⟩ = z at *
  generalize P.getD k ⟨#[]⟩ = u at *
  cases y with
  | true =>
    rw [if_pos rfl]
    go_enter Try.func114, Try.ntmps114
    go_wp2
    go_ret2
    exact ⟨rfl, HB.out⟩
  | false =>
    rw [if_neg (by simp)]
    by_cases hz : z.size = 0
    · have hzz := size_zero hz
      subst hzz
      rw [if_pos hz]
      go_enter Try.func114, Try.ntmps114
      go_wp2
      go_ret2
      exact ⟨rfl, HB.out⟩
    · rw [if_neg hz]
      obtain ⟨zz1, zz2⟩ := toList_ne (z := z) (fun e => hz (by rw [e]; rfl))
      clear hz
      go_enter Try.func114, Try.ntmps114
      go_wp2
      go_ret2
      exact ⟨rfl, HB.out⟩
end Go.Proofs.Ytpgmocogffolaaa

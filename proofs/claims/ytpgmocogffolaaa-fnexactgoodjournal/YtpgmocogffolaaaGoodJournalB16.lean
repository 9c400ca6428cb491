/-
  'append(l, k)': one integer behind a row of the call's own, and where it lies then. No call is walked here. A journal's states: the model's l15State, l15Bytes, StateBytes, StateFrom, l15Half and HalfOf, call by call. Each contract says what it asks. A crash, on a disk of the call's own: the model's, call by call. The contract says what it asks.
-/
import Derived.Test.YtpgmocogffolaaaGoodJournalB4
import Derived.Deep.AppendLies
import Derived.Test.YtpgmocogffolaaaGoodJournalB15
import Derived.Test.YtpgmocogffolaaaGoodJournalB14
namespace Go.Proofs.Ytpgmocogffolaaa
open Go.RowKit
/-- One integer behind a row of the call's own, and where it lies then. -/
theorem wpList_append_int1 {w : World} {ops : Array Oper} {rest : List Oper} {o : Oper} {a : Act} {Q : Exit → Act → World → Prop} (hgd : o.guard = none) (s x : Operand)
    (ho : o.op = .call { callee := .builtin .append, args := #[s, x], argTypes := #[27, 27] })
    (base : Nat) (v : Value) (n : Nat) (xs : List Int) (z : Int) (hs : a.eval s = v) (hown : w.ownsRow base 3 1 v n (xs.map (Value.int .i64))) (gx : Nat) (hx : a.eval x = .slice (some ⟨gx, 0, none⟩) 1 1) (hc : w.cell? ⟨gx, 0, none⟩ = some (.int .i64 z))
    (hm : n ≤ 1000) (hbase : base ≤ w.heap.size)
    (h : ∀ g cap w', w'.ownsRow base 3 1 (.slice (some ⟨g, 0, none⟩) (n + 1) cap) (n + 1) ((xs ++ [z]).map (Value.int .i64)) → w.grownBy w' v.ownBlock → (v.ownBlock = some g ∨ g = w.heap.size) → g < w'.heap.size → wpList Try.prog ops Q rest (a.put o.dst (.slice (some ⟨g, 0, none⟩) (n + 1) cap)) w') : wpList Try.prog ops Q (o :: rest) a w := by
  obtain ⟨i0, hi, hz0, hz1, hz2⟩ := info_parts infoInt
  refine wpList_append_lies (w := w) hgd s x _ ho base _ i0 (.int .i64 0) 1 8 Try.underlying27 hi hz0 hz1 hz2 rfl (by decide) v n _ hs hown ⟨gx, 0, none⟩ 1 1 ([z].map (Value.int .i64)) hx (by simp) ?_ (ints_oneCell _ _) (by decide) (by unfold maxLen; omega) (by omega) hbase _ rfl ?_
  · intro j u hu
    have : j = 0 := by
      have := (List.getElem?_eq_some_iff.1 hu).1
      simpa using this
    subst this
    simp at hu
    subst hu
    simpa [Addr.add] using hc
  · intro g cap w' h1 h2 h3 h4
    rw [← List.map_append] at h1
    exact h g cap w' h1 h2 h3 h4
end Go.Proofs.Ytpgmocogffolaaa

namespace Go.Proofs.Ytpgmocogffolaaa
open Go.RowKit
set_option linter.unusedVariables false
set_option linter.unusedSimpArgs false

theorem jIn_calls (x a b : Int) (t : Bool) (w : World) (ht : t = true ↔ (a ≤ x ∧ x ≤ b)) :
    Calls Try.prog 74 #[.int .i64 x, .int .i64 a, .int .i64 b] w fun e w' => e = .returned (.bool t) ∧ w = w' := by
  cases t with
  | true => exact l1In_yes x a b w (ht.1 rfl).1 (ht.1 rfl).2
  | false =>
    refine l1In_no x a b w ?_
    have h : ¬ (a ≤ x ∧ x ≤ b) := fun h => by have := ht.2 h; simp at this
    omega
set_option maxRecDepth 100000 in
set_option maxHeartbeats 800000 in
theorem l15State_calls (v : Value) (ks : List Int) (y : Bool) (w : World) (hv : Rd w v ks) (hy : y = true ↔ jsP ks) :
    Calls Try.prog 73 #[v] w fun e w' => e = .returned (.bool y) ∧ w = w' := by
  have R := hide hv
  have HY := hide hy
  obtain ⟨a, cap, rfl, mh, hcm, _⟩ := hv
  have hm := hcm.1
  unfold maxLen at hm
  clear hy hcm
  go_enter Try.func73, Try.ntmps73
  go_wp2
  go_loop [7] (fun vi => ∃ k : Nat, k ≤ ks.length ∧ vi = .int .i64 k ∧ ∀ i, i < k → 0 ≤ ks.getD i 0 ∧ ks.getD i 0 ≤ 65535) (fun vi => ks.length - (intOf vi).toNat)
  case atStart => exact ⟨0, Nat.zero_le _, rfl, fun i hi => by omega⟩
  case round =>
    obtain ⟨k, hk, rfl, hall⟩ := hrel
    have A := hide hall
    clear hall
    by_cases hlt : k < ks.length
    · have hlt' : (k : Int) < (ks.length : Int) := by omega
      obtain ⟨b, off, rfl, hc1⟩ := rdAtJ R.out k hlt
      have X0 := hide (fun h : ∀ i, i < ks.length → 0 ≤ ks.getD i 0 ∧ ks.getD i 0 ≤ 65535 => h k hlt)
      have X1 := hide (fun (h : 0 ≤ ks.getD k 0 ∧ ks.getD k 0 ≤ 65535) i (hi : i < k + 1) => if e : i = k then (by rw [e]; exact h : 0 ≤ ks.getD i 0 ∧ ks.getD i 0 ≤ 65535) else A.out i (by omega))
      generalize ks.getD k 0 = x at hc1 X0 X1
      obtain ⟨q, hq⟩ := bol_exJ (0 ≤ x ∧ x ≤ 65535)
      have HC := hide (fun W => jIn_calls x 0 65535 q W hq)
      cases q with
      | true =>
        have HQ := hide (hq.1 rfl)
        clear hq
        go_wp2_with (go_at_call 74; refine (HC.out _).mono ?_; rintro e w' ⟨rfl, rfl⟩)
        go_round
        case rel => exact ⟨k + 1, by omega, by go_num, X1.out HQ.out⟩
        case measure => simp [intOf]; omega
      | false =>
        have HQ : Hid (¬ (0 ≤ x ∧ x ≤ 65535)) := fun h => by have := hq.2 h; simp at this
        clear hq
        go_wp2_with (go_at_call 74; refine (HC.out _).mono ?_; rintro e w' ⟨rfl, rfl⟩)
        go_ret
        obtain rfl : y = false := by
          cases y with
          | false => rfl
          | true => exact absurd (X0.out (HY.out.1 rfl).1) HQ.out
        exact ⟨rfl, rfl⟩
    · obtain rfl : k = ks.length := by omega
      by_cases h6 : ks.length = 6
      · obtain rfl : y = true := HY.out.2 ⟨A.out, h6⟩
        have h6' : (ks.length : Int) = 6 := by omega
        clear h6
        go_wp2
        go_ret
        exact ⟨rfl, rfl⟩
      · obtain rfl : y = false := by
          cases y with
          | false => rfl
          | true => exact absurd (HY.out.1 rfl).2 h6
        have h6' : ¬ (ks.length : Int) = 6 := by omega
        have h6b : ((ks.length : Int) == 6) = false := by simp; omega
        clear h6
        go_wp2
        go_ret
        exact ⟨rfl, rfl⟩
theorem hiB_two (x : Nat) (h : x < 65536) : hiB x 2 = [x / 256, x % 256] := by
  show [x / 256 % 256, x % 256] = _
  rw [Nat.mod_eq_of_lt (by omega)]
set_option maxRecDepth 100000 in
set_option maxHeartbeats 1600000 in
theorem l15Bytes_calls (v : Value) (vs : List Int) (w : World) (h : Rd w v vs) (J0 : jsP vs) :
    Calls Try.prog 123 #[v] w fun e w' => ∃ v', e = .returned v' ∧ OwnT w' w.heap.size v' (jsT vs) ∧ Below w.heap.size w w' := by
  have R := hide h
  have J := hide J0
  have H6 : Hid (vs.length = 6) := J0.2
  obtain ⟨a, cap, rfl, mh, hcm, _⟩ := h
  have hm := hcm.1
  unfold maxLen at hm
  clear hcm J0
  have OL : Hid (∀ W : World, w.heap.size ≤ W.heap.size → OwnT (W.alloc (.cells #[.string (ofN ((jsB vs).take 6)), .string (ofN ((jsB vs).drop 6))] 9)) w.heap.size (.slice (some ⟨W.heap.size, 0, none⟩) 2 2) (jsT vs)) := by
    show ∀ W : World, _
    intro W hW
    have := World.ownsRow_lit (base := w.heap.size) (e := 9) (size := 1) W #[.string (ofN ((jsB vs).take 6)), .string (ofN ((jsB vs).drop 6))] 2 hW (by unfold maxLen; omega) (by simp)
    simpa [jsT, OwnT] using this
  go_enter Try.func123, Try.ntmps123
  go_wp2
  go_loopw [3, 8] (fun vx vk wr => ∃ k : Nat, vk = .int .i64 k ∧ k ≤ vs.length ∧ vx = .string (ofN (jsB (vs.take k))) ∧ Below w.heap.size w wr) (fun _ vk _ => vs.length - (intOf vk).toNat)
  case atStart => exact ⟨0, rfl, Nat.zero_le _, rfl, Below.refl _ _⟩
  case round =>
    obtain ⟨k, rfl, hk, rfl, hb⟩ := hrel
    have HB := hide hb
    clear hb
    by_cases hlt : k < vs.length
    · have hlt' : (k : Int) < (vs.length : Int) := by omega
      obtain ⟨b, off, rfl, hc1⟩ := rdAtJ (R.out.below HB.out) k hlt
      have hx := J.out.1 k hlt
      have e : vs.take (k + 1) = vs.take k ++ [vs.getD k 0] := by
        rw [List.take_succ_eq_append_getElem (by omega), List.getD_eq_getElem?_getD, List.getElem?_eq_getElem (by omega)]
        rfl
      obtain ⟨x, hx2⟩ : ∃ x : Nat, vs.getD k 0 = (x : Int) := ⟨(vs.getD k 0).toNat, by omega⟩
      rw [hx2] at hc1 hx e
      have NX : Hid (ofN (jsB (vs.take k)) ++ ofN (hiB x 2) = ofN (jsB (vs.take (k + 1)))) := by
        show _ = _
        rw [e, jsB_app, ofN_append, hiB_two x (by omega)]
        rfl
      have hx65 : x < 4294967296 := by omega
      obtain ⟨T, hT⟩ : ∃ T, T = ofN (jsB (vs.take k)) := ⟨_, rfl⟩
      have hts : ¬ 9223372036854775807 < T.size + (ofN (hiB x 2)).size := by
        rw [hT, ofN_size, ofN_size, jsB_len, hiB_length, List.length_take]
        have := H6.out
        omega
      rw [← hT] at NX ⊢
      clear hx2 hx e hT
      go_wp2_with fail
      refine (hi2_calls x _ hx65).mono ?_
      rintro e w1 ⟨rfl, b1⟩
      have B1 := hide (HB.out.trans (b1.mono HB.out.size))
      clear b1
      go_wp2
      rw [NX.out]
      go_roundw
      case rel => exact ⟨k + 1, by go_num, by omega, rfl, B1.out⟩
      case measure => simp [intOf]; omega
    · obtain rfl : k = vs.length := by omega
      rw [List.take_length]
      have e1 := ext_take (jsB vs) 6
      have hl : (jsB vs).length = 12 := by rw [jsB_len, H6.out]
      have e2 := ext_drop (jsB vs) 6 12 hl.symm
      have hs : (ofN (jsB vs)).size = 12 := by rw [ofN_size]; exact hl
      generalize ofN (jsB vs) = S at e1 e2 hs
      clear hl
      have h6 : (6 : Int) ≤ (S.size : Int) := by omega
      have h6n : 6 ≤ S.size := by omega
      go_wp2
      go_region
      go_wp2
      go_ret
      exact ⟨_, rfl, OL.out _ HB.out.size, (HB.out.drew).alloc HB.out.size _⟩
theorem val_two (L : List Nat) (k : Nat) (h : 2 * k + 1 < L.length) : ((valB ((L.drop (2 * k)).take 2) : Nat) : Int) = jvN L k := by
  have e : (L.drop (2 * k)).take 2 = [L.getD (2 * k) 0, L.getD (2 * k + 1) 0] := by
    rw [List.drop_eq_getElem_cons (by omega), List.drop_eq_getElem_cons (by omega)]
    simp only [List.take_succ_cons, List.take_zero, List.getD_eq_getElem?_getD]
    rw [List.getElem?_eq_getElem (by omega), List.getElem?_eq_getElem (by omega)]
    rfl
  rw [e]
  unfold jvN
  simp [valB]
set_option maxRecDepth 100000 in
set_option maxHeartbeats 1600000 in
theorem sStateFrom_calls (v : Value) (l : List ByteArray) (t : Bool) (w : World) (h : RdT w v l) (ht : t = true ↔ jfP l) :
    Calls Try.prog 115 #[v] w fun e w' => ∃ v', e = .returned (.tuple #[v', .bool t]) ∧ Own w' w.heap.size v' (sfR t l) ∧ Below w.heap.size w w' := by
  obtain ⟨a, cap, rfl, h1, h2, h4, h3⟩ := h
  have hm : l.length ≤ maxLen := by omega
  unfold maxLen at hm
  by_cases hl : l.length = 2
  case neg =>
    have hl' : ¬ (l.length : Int) = 2 := by omega
    have hlb : ((l.length : Int) != 2) = true := by simp; omega
    obtain rfl : t = false := by cases t with | false => rfl | true => exact absurd (ht.1 rfl).1 hl
    show Calls _ _ _ _ fun e w' => ∃ v', e = .returned (.tuple #[v', .bool false]) ∧ Own w' w.heap.size v' [] ∧ _
    clear ht hl h1 h2 h3 h4
    go_enter Try.func115, Try.ntmps115
    go_wp2
    go_ret2
    exact ⟨_, rfl, World.ownsRow_nil _ _ _ _, Below.refl _ _⟩
  match l, hl with
  | [x, y], _ =>
    rcases h3 with h3 | ⟨b, off, rfl, hbs, hc⟩
    · simp at h3
    have c0 := hc 0 (by simp)
    have c1 := hc 1 (by simp)
    simp only [List.getD_cons_zero, List.getD_cons_succ, Nat.add_zero] at c0 c1
    have zx := h4 x (by simp)
    have zy := h4 y (by simp)
    unfold maxLen at zx zy
    clear h1 h2 h4 hc hm
    show Calls _ _ #[.slice _ 2 cap] _ _
    by_cases hx : x.size = 6
    case neg =>
      have hx' : ¬ (x.size : Int) = 6 := by omega
      have hxb : ((x.size : Int) != 6) = true := by simp; omega
      obtain rfl : t = false := by cases t with | false => rfl | true => exact absurd ((ht.1 rfl).2 0 (by simp)) hx
      show Calls _ _ _ _ fun e w' => ∃ v', e = .returned (.tuple #[v', .bool false]) ∧ Own w' w.heap.size v' [] ∧ _
      clear ht hx
      go_enter Try.func115, Try.ntmps115
      go_wp2
      go_ret2
      exact ⟨_, rfl, World.ownsRow_nil _ _ _ _, Below.refl _ _⟩
    have hx' : (x.size : Int) = 6 := by omega
    have hxb : ((x.size : Int) != 6) = false := by simp; omega
    by_cases hy : y.size = 6
    case neg =>
      have hy' : ¬ (y.size : Int) = 6 := by omega
      have hyb : ((y.size : Int) != 6) = true := by simp; omega
      obtain rfl : t = false := by cases t with | false => rfl | true => exact absurd ((ht.1 rfl).2 1 (by simp)) hy
      show Calls _ _ _ _ fun e w' => ∃ v', e = .returned (.tuple #[v', .bool false]) ∧ Own w' w.heap.size v' [] ∧ _
      clear ht hx hy
      go_enter Try.func115, Try.ntmps115
      go_wp2
      go_ret2
      exact ⟨_, rfl, World.ownsRow_nil _ _ _ _, Below.refl _ _⟩
    have hy' : (y.size : Int) = 6 := by omega
    have hyb : ((y.size : Int) != 6) = false := by simp; omega
    obtain rfl : t = true := ht.2 ⟨rfl, fun i hi => by
      have : i = 0 ∨ i = 1 := by simp at hi; omega
      rcases this with rfl | rfl
      · exact hx
      · exact hy⟩
    show Calls _ _ _ _ fun e w' => ∃ v', e = .returned (.tuple #[v', .bool true]) ∧ Own w' w.heap.size v' (jvB (bs x ++ bs y) 6) ∧ _
    obtain ⟨L, hL⟩ : ∃ L, L = bs x ++ bs y := ⟨_, rfl⟩
    have SM : Hid (∀ q ∈ L, q < 256) := by
      show ∀ q ∈ L, _
      intro q hq
      rw [hL, List.mem_append] at hq
      rcases hq with hq | hq
      · exact bs_lt _ q hq
      · exact bs_lt _ q hq
    have E12 : Hid (L.length = 12) := by show _ = _; rw [hL, List.length_append, bs_length, bs_length, hx, hy]
    have EX : Hid (x ++ y = ofN L) := by show _ = _; rw [hL, ← ofN_append, ofN_bs, ofN_bs]
    rw [← hL]
    have hts : ¬ 9223372036854775807 < x.size + y.size := by omega
    clear ht hx hy hL
    go_enter Try.func115, Try.ntmps115
    go_wp2
    go_quiet (fail)
    rw [EX.out]
    have SZ : (ofN L).size = 12 := by rw [ofN_size]; exact E12.out
    have LB : Hid (bs (ofN L) = L) := bs_ofN SM.out
    generalize ofN L = s at SZ LB ⊢
    have bq := below_drewN' (w := w) nq
    generalize w.drewN nq = w0 at bq ⊢
    have BQ := hide bq
    have hw0 : w.heap.size ≤ w0.heap.size := bq.size
    clear bq
    go_wp2
    go_loopw [5, 6] (fun vo vk wr => ∃ k : Nat, vk = .int .i64 k ∧ k ≤ 6 ∧ wr.ownsRow w.heap.size 3 1 vo k ((jvB L k).map (Value.int .i64)) ∧ Below w.heap.size w wr) (fun _ vk _ => 6 - (intOf vk).toNat)
    case atStart => exact ⟨0, rfl, by omega, World.ownsRow_nil _ _ _ _, BQ.out⟩
    case round =>
      obtain ⟨k, rfl, hk, ho, hb⟩ := hrel
      have O := hide ho
      have HB := hide hb
      clear hb BQ
      obtain ⟨ao, co, rfl⟩ := row_slice ho
      by_cases hlt : k < 6
      · have hlt' : (k : Int) < 6 := by omega
        have e1 := bs_mid s (2 * k) (2 * k + 2)
        rw [LB.out, show 2 * k + 2 - 2 * k = 2 by omega] at e1
        have e2 : ((valB (bs (s.extract (2 * k) (2 * k + 2))) : Nat) : Int) = jvN L k := by rw [e1]; exact val_two L k (by rw [E12.out]; omega)
        have z2 : (s.extract (2 * k) (2 * k + 2)).size ≤ 2 := by
          rw [← bs_length, e1, List.length_take]
          omega
        obtain ⟨y2, hy2⟩ : ∃ y2, y2 = 2 * k := ⟨_, rfl⟩
        rw [← hy2] at e2 z2
        have LV := hide (l6Value_calls (s.extract y2 (y2 + 2)) wr z2)
        rw [e2] at LV
        have m1 : (2 : Int) * (k : Int) = (y2 : Int) := by omega
        have t1 : (y2 : Int) + 2 ≤ (s.size : Int) := by omega
        have t2 : ((y2 : Int) + 2).toNat = y2 + 2 := by omega
        have t3 : y2 + 2 ≤ s.size := by omega
        have t4 : (y2 : Int) ≤ (y2 : Int) + 2 := by omega
        clear e1 e2 z2 hy2 ho
        go_wp2_with fail
        refine LV.out.mono ?_
        rintro e w4 ⟨rfl, rfl⟩
        have JS := hide (jvB_succ L k)
        have HBa := hide (HB.out.alloc HB.out.size (.cells #[.int .i64 (jvN L k)] 3))
        have Oa := hide (ownsRow_below O.out (below_box wr (.cells #[.int .i64 (jvN L k)] 3)))
        generalize jvN L k = z at JS HBa Oa ⊢
        have Wa : Hid (w.heap.size ≤ (wr.alloc (.cells #[.int .i64 z] 3)).heap.size) := HBa.out.size
        clear m1 t1 t2 t3 t4 LV
        go_wp2_with (at_builtin; refine wpList_append_int1 rfl _ _ rfl w.heap.size _ k (jvB L k) z rfl Oa.out wr.heap.size rfl (World.cell?_alloc_at _ _ _ _ (by simp)) (by omega) Wa.out ?_)
        intro g9 c9 w9 o9 gr9 _ _
        have O9 : Hid (w9.ownsRow w.heap.size 3 1 (.slice (some ⟨g9, 0, none⟩) (k + 1) c9) (k + 1) ((jvB L (k + 1)).map (Value.int .i64))) := by
          show World.ownsRow _ _ _ _ _ _ _
          rw [JS.out]
          simpa using o9
        have B9 := hide (HBa.out.grown gr9 Wa.out (fun j hj => (World.ownsRow.lt Oa.out j hj).1))
        clear o9 gr9 O HB HBa Oa Wa
        go_wp2
        go_roundw
        case rel => exact ⟨k + 1, by go_num, by omega, O9.out, B9.out⟩
        case measure => simp [intOf]; omega
      · obtain rfl : k = 6 := by omega
        clear ho
        go_wp2
        go_ret2
        exact ⟨_, rfl, O.out, HB.out⟩

set_option maxRecDepth 100000 in
theorem l15Half_calls (e : Int) (w : World) (h0 : 0 ≤ e) (h1 : e ≤ 60000) :
    Calls Try.prog 92 #[.int .i64 e] w fun x w' => x = .returned (.int .i64 (hlf e)) ∧ w = w' := by
  obtain ⟨n, rfl⟩ : ∃ n : Nat, e = (n : Int) := ⟨e.toNat, by omega⟩
  have hh : hlf (n : Int) = 1 ∧ n % 2 = 0 ∨ hlf (n : Int) = 3 ∧ n % 2 = 1 := by unfold hlf; omega
  clear h0
  rcases hh with ⟨ha, hb⟩ | ⟨ha, hb⟩
  · have HA := hide ha
    have hm : (n : Int).tmod 2 = 0 := (Int.tmod_eq_emod_of_nonneg (by omega)).trans (by omega)
    have hm2 : (n : Int) % 2 = 0 := by omega
    clear ha
    go_enter Try.func92, Try.ntmps92
    go_wp2
    go_ret
    exact ⟨by rw [HA.out]; rfl, rfl⟩
  · have HA := hide ha
    have hm : (n : Int).tmod 2 = 1 := (Int.tmod_eq_emod_of_nonneg (by omega)).trans (by omega)
    have hm2 : (n : Int) % 2 = 1 := by omega
    clear ha
    go_enter Try.func92, Try.ntmps92
    go_wp2
    go_ret
    exact ⟨by rw [HA.out]; rfl, rfl⟩
set_option maxRecDepth 100000 in
theorem sHalfOf_calls (e : Int) (t : Bool) (w : World) (ht : t = true ↔ (0 ≤ e ∧ e ≤ 60000)) :
    Calls Try.prog 33 #[.int .i64 e] w fun x w' => x = .returned (.tuple #[.int .i64 (bif t then hlf e else 0), .bool t]) ∧ w = w' := by
  have IN := hide (fun W => jIn_calls e 0 60000 t W ht)
  cases t with
  | false =>
    clear ht
    go_enter Try.func33, Try.ntmps33
    go_wp2_with fail
    refine (IN.out _).mono ?_
    rintro x w1 ⟨rfl, rfl⟩
    go_wp2
    go_ret2
    exact ⟨rfl, rfl⟩
  | true =>
    have HF := hide (fun W => l15Half_calls e W (ht.1 rfl).1 (ht.1 rfl).2)
    clear ht
    show Calls _ _ _ _ fun x w' => x = .returned (.tuple #[.int .i64 (hlf e), .bool true]) ∧ _
    generalize hlf e = q at HF ⊢
    go_enter Try.func33, Try.ntmps33
    go_wp2_with fail
    refine (IN.out _).mono ?_
    rintro x w1 ⟨rfl, rfl⟩
    go_wp2_with fail
    refine (HF.out _).mono ?_
    rintro x w1 ⟨rfl, rfl⟩
    go_wp2
    go_ret2
    exact ⟨rfl, rfl⟩
end Go.Proofs.Ytpgmocogffolaaa

namespace Go.Proofs.Ytpgmocogffolaaa
open Go.RowKit
set_option linter.unusedVariables false

theorem has_bool (x : Int) (ks : List Int) : ∃ y : Bool, y = true ↔ x ∈ ks := by
  by_cases hh : x ∈ ks
  · exact ⟨true, fun _ => hh, fun _ => rfl⟩
  · exact ⟨false, fun h => by simp at h, fun h => absurd h hh⟩

set_option maxRecDepth 100000 in
set_option maxHeartbeats 1600000 in
theorem l7Crash_calls (p h b v : Value) (P H : List ByteArray) (B : List Bool) (ks : List Int) (lo hi n : Nat) (w : World) (d : DskV w lo hi p h b P H B) (hhi : hi ≤ w.heap.size) (hP : P.length = n) (hH : H.length = n) (hB : B.length = n) (hn : 0 < n ∧ n ≤ 24)
    (kv : ∀ w', Chg lo hi w w' → Rd w' v ks) :
    Calls Try.prog 75 #[.agg #[p, h, b], v] w fun e w' => e = .returned (.agg #[p, h, b]) ∧ DskV w' lo hi p h b (crP P H ks) (crH H) B ∧ Chg lo hi w w' := by
  obtain ⟨gp, cp, gh, ch, gb, cb, rfl, rfl, rfl, n1, n2, n3, ⟨t1, t2, t3⟩, _⟩ := d.blocks hP hH hB hn.1
  have KV := hide kv
  obtain ⟨av, cv, ev, _, _⟩ := (kv w (Chg.refl _ _ _)).sl
  obtain ⟨W0, e0⟩ : ∃ W0, W0 = (w.alloc (.cells #[.slice (some ⟨gp, 0, none⟩) n cp, .slice (some ⟨gh, 0, none⟩) n ch, .slice (some ⟨gb, 0, none⟩) n cb] 30)).alloc (.cells nil3 30) := ⟨_, rfl⟩
  have b0 : Below w.heap.size w W0 := by rw [e0]; exact (below_box w _).trans ((below_box _ _).mono (by simp))
  have x0 : BoxAt W0 w.heap.size #[.slice (some ⟨gp, 0, none⟩) n cp, .slice (some ⟨gh, 0, none⟩) n ch, .slice (some ⟨gb, 0, none⟩) n cb] 30 := by rw [e0]; exact (BoxAt.new w _ _).below (below_box _ _)
  have y0 : BoxAt W0 (w.heap.size + 1) nil3 30 := by
    rw [e0]
    have := BoxAt.new (w.alloc (.cells #[.slice (some ⟨gp, 0, none⟩) n cp, .slice (some ⟨gh, 0, none⟩) n ch, .slice (some ⟨gb, 0, none⟩) n cb] 30)) nil3 30
    simpa only [World.size_alloc] using this
  have E0 := hide e0.symm
  have C0 := hide (Chg.ofBelow (lo := lo) (hi := hi) b0)
  have X0 := hide x0
  have Y0 := hide y0
  have D0 := hide (d.below b0)
  have SH := hide d.sh
  have LP := hide hP
  have LH := hide hH
  have LB := hide hB
  have s0 : w.heap.size + 1 < W0.heap.size := y0.lt
  have SZ : Hid (∀ i, (H.getD i ⟨#[]⟩).size ≤ maxLen) := by
    show ∀ i, _
    intro i
    have := d.rh.szAt i
    unfold maxLen
    exact this
  clear kv d b0 x0 y0 e0 hP hH hB
  subst ev
  go_enter Try.func75, Try.ntmps75
  go_wp2
  rw [E0.out]
  go_loopw [5, 6, 10] (fun _ _ vi wr => ∃ k : Nat, k ≤ n ∧ vi = .int .i64 k ∧ DskV wr lo hi (.slice (some ⟨gp, 0, none⟩) n cp) (.slice (some ⟨gh, 0, none⟩) n ch) (.slice (some ⟨gb, 0, none⟩) n cb) (crPk P H ks k) (crHk H k) B ∧ Chg lo hi W0 wr) (fun _ _ vi _ => n - (intOf vi).toNat)
  case atStart =>
    refine ⟨0, Nat.zero_le _, rfl, ?_, Chg.refl _ _ _⟩
    rw [crPk_zero, crHk_zero]
    exact D0.out
  case round =>
    obtain ⟨k, hk, rfl, dk, ck⟩ := hrel
    have DK := hide dk
    have CK := hide ck
    have X1 := hide (X0.out.chg ck (.inr hhi))
    have Y1 := hide (Y0.out.chg ck (.inr (by omega)))
    have hs := ck.size
    obtain ⟨c0, c1, c2⟩ := X1.out.c3
    by_cases hlt : k < n
    · obtain ⟨hc, hf⟩ := dk.cellH (by rw [crHk_len]; exact LH.out) k hlt
      rw [crHk_at H k k (by rw [LH.out]; exact hlt), if_neg (by omega)] at hc
      have ST := hide (crHk_step H k (by rw [LH.out]; exact hlt))
      have YES := hide (crPk_yes P H ks k (by rw [LP.out]; exact hlt))
      have NO := hide (crPk_no P H ks k)
      have hz := SZ.out k
      obtain ⟨z, hzz⟩ : ∃ z, z = H.getD k ⟨#[]⟩ := ⟨_, rfl⟩
      rw [← hzz] at hc hz YES
      have HZ := hide hz
      clear hzz dk ck hz
      obtain ⟨y, hy⟩ := has_bool (k : Int) ks
      have HY := hide hy
      have CH : Hid (Calls Try.prog 118 #[.slice av ks.length cv, .int .i64 (k : Int)] wr fun e w' => e = .returned (.bool y) ∧ wr = w') := l1Has_calls _ ks (k : Int) y wr (KV.out _ (C0.out.trans CK.out)) hy
      have hlt' : (k : Int) < (n : Int) := by omega
      clear hy
      cases y with
      | true =>
        have hin : (k : Int) ∈ ks := HY.out.1 rfl
        obtain ⟨hp1, hp2⟩ := DK.out.cellP (by rw [crPk_len]; exact LP.out) k hlt
        obtain ⟨dp, cpp⟩ := DK.out.putP (by rw [crPk_len]; exact LP.out) k z HZ.out
        rw [YES.out hin] at dp
        obtain ⟨hq1, hq2⟩ := dp.cellH (by rw [crHk_len]; exact LH.out) k hlt
        obtain ⟨dq, cq⟩ := dp.putH (by rw [crHk_len]; exact LH.out) k ⟨#[]⟩ (Nat.zero_le _)
        rw [ST.out] at dq
        obtain ⟨e0, e1, e2⟩ := (X1.out.chg cpp (.inr hhi)).c3
        have DQ := hide dq
        have CQ := hide ((CK.out.trans cpp).trans cq)
        clear dp cpp dq cq hin
        go_wp2_with (go_at_call 118; refine CH.out.mono ?_; rintro e w' ⟨rfl, rfl⟩)
        go_roundw
        case rel => exact ⟨k + 1, by omega, by go_num, DQ.out, CQ.out⟩
        case measure => simp [intOf]; omega
      | false =>
        have hin : ¬ (k : Int) ∈ ks := fun h => by have := HY.out.2 h; simp at this
        obtain ⟨dq, cq⟩ := DK.out.putH (by rw [crHk_len]; exact LH.out) k ⟨#[]⟩ (Nat.zero_le _)
        rw [ST.out, NO.out hin] at dq
        have DQ := hide dq
        have CQ := hide (CK.out.trans cq)
        clear dq cq hin
        go_wp2_with (go_at_call 118; refine CH.out.mono ?_; rintro e w' ⟨rfl, rfl⟩)
        go_roundw
        case rel => exact ⟨k + 1, by omega, by go_num, DQ.out, CQ.out⟩
        case measure => simp [intOf]; omega
    · obtain rfl : k = n := by omega
      have dd := DK.out
      rw [show crPk P H ks k = crP P H ks from by unfold crP; rw [LP.out], show crHk H k = crH H from by rw [← crHk_end, LH.out]] at dd
      have DD := hide dd
      have g0 := Y1.out.frozen 0
      have g1 := Y1.out.frozen 1
      have g2 := Y1.out.frozen 2
      obtain ⟨d0, d1, d2⟩ := Y1.out.c3
      have XF := hide (Y1.out.store3 (.slice (some ⟨gp, 0, none⟩) k cp) (.slice (some ⟨gh, 0, none⟩) k ch) (.slice (some ⟨gb, 0, none⟩) k cb))
      have C6 := Chg.store3 (lo := w.heap.size + 1) (hi := w.heap.size + 1 + 1) wr (w.heap.size + 1) (.slice (some ⟨gp, 0, none⟩) k cp) (.slice (some ⟨gh, 0, none⟩) k ch) (.slice (some ⟨gb, 0, none⟩) k cb) (Nat.le_refl _) (by omega)
      have D6 := hide (dd.chg C6 (.inl (by omega)))
      have K6 : Hid (Chg lo hi w _) := chg_new (C0.out.trans CK.out) C6 (Nat.le_succ _)
      clear dd dk ck C6
      go_wp2
      exact bodyPost_ret (res_dsk rfl _ _ (w.heap.size + 1) _ _ _ (0, 0) rfl XF.out) rfl ⟨rfl, D6.out, K6.out⟩
end Go.Proofs.Ytpgmocogffolaaa

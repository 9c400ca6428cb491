/-
  The Epochs of the pieces that the program has found: epochOf, isOf, countOf, rightEpoch, call by call. Each contract says what it asks.
-/
import Derived.Test.YtiojipicincgfaaSfp
namespace Go.Proofs.Ytiojipicincgfaa
open Go.RowKit
set_option linter.unusedVariables false

abbrev Pc := Option (Int × ByteArray)
/-- The value v is a slice that reads as these pieces. -/
def RdP (w : World) (v : Value) (xs : List Pc) : Prop :=
  ∃ a cap, v = .slice a xs.length cap ∧ xs.length ≤ cap ∧ (cap ≤ maxLen ∧ (a = none → cap = 0)) ∧ (xs = [] ∨ ∃ b off, a = some ⟨b, off, none⟩ ∧ b < w.heap.size ∧ ∀ i, i < xs.length → w.cell? ⟨b, off + i, none⟩ = some (pv (xs.getD i none)))
abbrev OwnP (w : World) (base : Nat) (v : Value) (xs : List Pc) : Prop := w.ownsRow base 70 1 v xs.length (xs.map pv)
theorem RdP.below {w w' : World} {v : Value} {xs : List Pc} (h : RdP w v xs) (hb : Below w.heap.size w w') : RdP w' v xs := by
  obtain ⟨a, cap, rfl, h1, h2, h3⟩ := h
  refine ⟨a, cap, rfl, h1, h2, ?_⟩
  rcases h3 with h3 | ⟨b, off, rfl, hlt, hc⟩
  · exact .inl h3
  · exact .inr ⟨b, off, rfl, Nat.lt_of_lt_of_le hlt hb.size, fun i hi => (hb.cell (p := ⟨b, off + i, none⟩) hlt).trans (hc i hi)⟩
theorem OwnP.rd {w : World} {base : Nat} {v : Value} {xs : List Pc} (h : OwnP w base v xs) : RdP w v xs := by
  rcases h.2 with ⟨rfl, hn⟩ | ⟨g, cap, cur, rfl, hb, hg, hc, hm, hs, ht⟩
  · have : xs = [] := List.eq_nil_of_length_eq_zero hn
    subst this
    exact ⟨none, 0, rfl, Nat.le_refl _, ⟨Nat.zero_le _, fun _ => rfl⟩, .inl rfl⟩
  · refine ⟨_, cap, rfl, hc, ⟨hm, fun h => by cases h⟩, .inr ⟨g, 0, rfl, (Array.getElem?_eq_some_iff.1 hg).1, fun i hi => ?_⟩⟩
    have := World.ownsRow.cellAt h i (by omega)
    rw [Nat.zero_add, this]
    simp [hi]
theorem RdP.sl {w : World} {v : Value} {xs : List Pc} (h : RdP w v xs) : ∃ a cap, v = .slice a xs.length cap ∧ xs.length ≤ cap ∧ cap ≤ maxLen := by
  obtain ⟨a, cap, rfl, h1, h2, _⟩ := h
  exact ⟨a, cap, rfl, h1, h2.1⟩
theorem RdP.cell {w : World} {a : Option Addr} {n cap : Nat} {xs : List Pc} (h : RdP w (.slice a n cap) xs) (k : Nat) (hk : k < xs.length) : ∃ b off, a = some ⟨b, off, none⟩ ∧ w.cell? ⟨b, off + k, none⟩ = some (pv (xs.getD k none)) ∧ b < w.heap.size := by
  obtain ⟨a', cap', e, h1, h2, h3⟩ := h
  simp only [Value.slice.injEq] at e
  obtain ⟨rfl, _, rfl⟩ := e
  rcases h3 with h3 | ⟨b, off, rfl, hlt, hc⟩
  · subst h3; simp at hk
  · exact ⟨b, off, rfl, hc k hk, hlt⟩
theorem map_getD (xs : List Pc) (k : Nat) (h : k < xs.length) : (xs.map epo).getD k 0 = epo (xs.getD k none) := by
  rw [List.getD_eq_getElem?_getD, List.getD_eq_getElem?_getD, List.getElem?_map, List.getElem?_eq_getElem h]
  rfl

theorem asF_yes (v : Value) (w : World) : (Instr.typeAssert (.iface 74 v) 70 74 true).run Try.prog w = .ok (.tuple #[v, .bool true]) w := by kernel_rfl
theorem asF_no (v : Value) (w : World) : (Instr.typeAssert (.iface 72 v) 70 74 true).run Try.prog w = .ok (.tuple #[.agg #[.int .i64 0, .string ⟨#[]⟩], .bool false]) w := by kernel_rfl
theorem asL_yes (v : Value) (w : World) : (Instr.typeAssert (.iface 72 v) 70 72 true).run Try.prog w = .ok (.tuple #[v, .bool true]) w := by kernel_rfl
theorem asL_no (v : Value) (w : World) : (Instr.typeAssert (.iface 74 v) 70 72 true).run Try.prog w = .ok (.tuple #[.agg #[], .bool false]) w := by kernel_rfl

set_option maxRecDepth 100000 in
theorem epochOf_none (w : World) : Calls Try.prog 48 #[pv none] w fun e w' => e = .returned (.tuple #[.int .i64 0, .bool false]) ∧ Below w.heap.size w w' := by
  show Calls _ _ #[.iface 72 (.agg #[])] _ _
  have f1 := asF_no (.agg #[])
  go_enter Try.func48, Try.ntmps48
  go_wp2
  go_ret2
  exact ⟨rfl, Below.refl _ _⟩
set_option maxRecDepth 100000 in
theorem epochOf_some (y : Int × ByteArray) (w : World) : Calls Try.prog 48 #[pv (some y)] w fun e w' => e = .returned (.tuple #[.int .i64 y.1, .bool true]) ∧ Below w.heap.size w w' := by
  obtain ⟨e, b⟩ := y
  show Calls _ _ #[.iface 74 (.agg #[.int .i64 e, .string b])] _ _
  have HB := hide (below_box w (.cells #[.int .i64 e, .string b] 74))
  have f1 := asF_yes (.agg #[.int .i64 e, .string b])
  go_enter Try.func48, Try.ntmps48
  go_wp2
  go_ret2
  exact ⟨rfl, HB.out⟩
theorem isE_none (r : Int) : isE r (epo none) = false := decide_eq_false (fun h => by have := h.2; simp [epo] at this)
theorem isE_some (r : Int) {y : Int × ByteArray} (h : okP (some y)) : isE r (epo (some y)) = decide (y.1 = r) := by
  unfold isE
  have := (h y rfl).1.1
  exact decide_eq_decide.2 ⟨fun h => h.1, fun h' => ⟨h', this⟩⟩

set_option maxRecDepth 100000 in
theorem isOf_calls (x : Pc) (r : Int) (w : World) (hx : okP x) : Calls Try.prog 58 #[pv x, .int .i64 r] w fun e w' => e = .returned (.bool (isE r (epo x))) ∧ Below w.heap.size w w' := by
  cases x with
  | none =>
    rw [isE_none]
    obtain ⟨v, hv⟩ : ∃ v, v = pv none := ⟨_, rfl⟩
    have C := hide (fun W => epochOf_none W)
    rw [← hv] at C ⊢
    clear hv
    go_enter Try.func58, Try.ntmps58
    go_wp2_with fail
    refine (C.out _).mono ?_
    rintro e w1 ⟨rfl, q⟩
    have Q := hide q
    clear q
    go_wp2
    go_ret
    exact ⟨rfl, Q.out⟩
  | some y =>
    rw [isE_some r hx]
    obtain ⟨v, hv⟩ : ∃ v, v = pv (some y) := ⟨_, rfl⟩
    have C := hide (fun W => epochOf_some y W)
    rw [← hv] at C ⊢
    clear hv hx
    generalize y.1 = E at C
    by_cases h : E = r
    · rw [decide_eq_true h]
      subst h
      go_enter Try.func58, Try.ntmps58
      go_wp2_with fail
      refine (C.out _).mono ?_
      rintro e w1 ⟨rfl, q⟩
      have Q := hide q
      clear q
      go_wp2
      go_ret
      exact ⟨rfl, Q.out⟩
    · rw [decide_eq_false h]
      have hb : (E == r) = false := by simpa using h
      go_enter Try.func58, Try.ntmps58
      go_wp2_with fail
      refine (C.out _).mono ?_
      rintro e w1 ⟨rfl, q⟩
      have Q := hide q
      clear q
      go_wp2
      go_ret
      exact ⟨rfl, Q.out⟩

set_option maxRecDepth 100000 in
set_option maxHeartbeats 800000 in
theorem countOf_calls (v : Value) (xs : List Pc) (r : Int) (w : World) (h : RdP w v xs) (hok : ∀ k, okP (xs.getD k none)) (hr : 0 ≤ r) (hl : xs.length ≤ 24) :
    Calls Try.prog 49 #[v, .int .i64 r] w fun e w' => e = .returned (.int .i64 ((cntE (xs.map epo) r xs.length : Nat) : Int)) ∧ Below w.heap.size w w' := by
  have R := hide h
  have OK := hide hok
  have HR := hide hr
  obtain ⟨a, cap, rfl, m1, _⟩ := h.sl
  clear h hok m1
  obtain ⟨cn, hcn⟩ : ∃ cn : Nat → Nat, cn = cntE (xs.map epo) r := ⟨_, rfl⟩
  have h0 : cn 0 = 0 := by rw [hcn]; rfl
  have hs : ∀ k, k < xs.length → cn (k + 1) = cn k + (if isE r (epo (xs.getD k none)) = true then 1 else 0) := by
    intro k hk
    rw [hcn]
    show cntE _ _ k + _ = _
    congr 1
    rw [map_getD xs k hk]
    unfold isE
    have hh : (epo (xs.getD k none) = r ∧ 0 ≤ epo (xs.getD k none)) ↔ epo (xs.getD k none) = r := ⟨fun h => h.1, fun h => ⟨h, by omega⟩⟩
    simp only [decide_eq_true_eq, hh]
  have hle : ∀ k, cn k ≤ k := by intro k; rw [hcn]; exact cntE_le _ _ _
  rw [← hcn]
  have HS := hide hs
  have HL := hide hle
  have H0 := hide h0
  clear hcn hs hle h0 hr
  go_enter Try.func49, Try.ntmps49
  go_wp2
  go_loopw [5, 7, 10] (fun vn _ vi wr => ∃ k : Nat, k ≤ xs.length ∧ vi = .int .i64 k ∧ vn = .int .i64 (cn k : Int) ∧ Below w.heap.size w wr) (fun _ _ vi _ => xs.length - (intOf vi).toNat)
  case atStart => exact ⟨0, Nat.zero_le _, rfl, by rw [H0.out]; rfl, Below.refl _ _⟩
  case round =>
    obtain ⟨k, hk, rfl, rfl, hb⟩ := hrel
    have HB := hide hb
    by_cases hlt : k < xs.length
    · obtain ⟨gb, off, rfl, hc, _⟩ := (R.out.below hb).cell k hlt
      have hlt' : (k : Int) < (xs.length : Int) := by omega
      have C := hide (fun W => isOf_calls (xs.getD k none) r W (OK.out k))
      have S := hide (HS.out k hlt)
      generalize epo (xs.getD k none) = ee at C S
      generalize isE r ee = yes at C S
      generalize pv (xs.getD k none) = u at hc C
      have hcl := HL.out k
      clear hb
      go_wp2_with fail
      refine (C.out _).mono ?_
      rintro e w1 ⟨rfl, q⟩
      have B1 := hide (HB.out.trans (q.mono HB.out.size))
      clear q hc
      cases yes with
      | true =>
        go_wp2
        go_roundw
        case rel => exact ⟨k + 1, by omega, by go_num, by rw [S.out]; simp only [if_pos]; go_num, B1.out⟩
        case measure => simp [intOf]; omega
      | false =>
        go_wp2
        go_roundw
        case rel => exact ⟨k + 1, by omega, by go_num, by rw [S.out]; simp, B1.out⟩
        case measure => simp [intOf]; omega
    · obtain rfl : k = xs.length := by omega
      clear hb
      go_wp2
      go_ret
      exact ⟨rfl, HB.out⟩

set_option maxRecDepth 100000 in
set_option maxHeartbeats 1600000 in
theorem rightEpoch_calls (v : Value) (xs : List Pc) (w : World) (h : RdP w v xs) (hok : ∀ k, okP (xs.getD k none)) (hl : xs.length ≤ 24) :
    Calls Try.prog 40 #[v] w fun e w' => e = .returned (.int .i64 (rtE (xs.map epo) xs.length)) ∧ Below w.heap.size w w' := by
  have R := hide h
  have OK := hide hok
  obtain ⟨a, cap, rfl, m1, _⟩ := h.sl
  clear h hok m1
  obtain ⟨rt, hrt⟩ : ∃ rt : Nat → Int, rt = rtE (xs.map epo) := ⟨_, rfl⟩
  have h0 : rt 0 = -1 := by rw [hrt]; rfl
  have hge : ∀ k, -1 ≤ rt k := by intro k; rw [hrt]; exact rtE_ge _ _
  have hs : ∀ k, k < xs.length → rt (k + 1) = if 3 ≤ cntE (xs.map epo) (epo (xs.getD k none)) xs.length then max (rt k) (epo (xs.getD k none)) else rt k := by
    intro k hk
    rw [hrt]
    show (if 3 ≤ cntE (xs.map epo) ((xs.map epo).getD k 0) (xs.map epo).length then max (rtE (xs.map epo) k) ((xs.map epo).getD k 0) else rtE (xs.map epo) k) = _
    rw [map_getD xs k hk, List.length_map]
  rw [← hrt]
  have HS := hide hs
  have HG := hide hge
  have H0 := hide h0
  clear hrt hs hge h0
  go_enter Try.func40, Try.ntmps40
  go_wp2
  go_loopw [3, 5, 6, 7, 10] (fun vr _ _ _ vi wr => ∃ k : Nat, k ≤ xs.length ∧ vi = .int .i64 k ∧ vr = .int .i64 (rt k) ∧ Below w.heap.size w wr) (fun _ _ _ _ vi _ => xs.length - (intOf vi).toNat)
  case atStart => exact ⟨0, Nat.zero_le _, rfl, by rw [H0.out], Below.refl _ _⟩
  case round =>
    obtain ⟨k, hk, rfl, rfl, hb⟩ := hrel
    have HB := hide hb
    by_cases hlt : k < xs.length
    · obtain ⟨gb, off, rfl, hc, _⟩ := (R.out.below hb).cell k hlt
      have hlt' : (k : Int) < (xs.length : Int) := by omega
      have S := hide (HS.out k hlt)
      have G := hide (HG.out k)
      have O := hide (OK.out k)
      generalize rt k = q at S G
      generalize xs.getD k none = x at hc S O
      clear hb
      cases x with
      | none =>
        have C := hide (fun W => epochOf_none W)
        have e1 : Hid (rt (k + 1) = q) := by
          show rt (k + 1) = q
          rw [S.out]
          have := G.out
          split
          · exact Int.max_eq_left (by simp only [epo]; exact this)
          · rfl
        generalize pv none = u at hc C
        clear S O
        go_wp2_with fail
        refine (C.out _).mono ?_
        rintro e w1 ⟨rfl, q⟩
        have B1 := hide (HB.out.trans (q.mono HB.out.size))
        clear q hc
        go_wp2
        go_roundw
        case rel => exact ⟨k + 1, by omega, by go_num, by rw [e1.out], B1.out⟩
        case measure => simp [intOf]; omega
      | some y =>
        have C := hide (fun W => epochOf_some y W)
        have y0 := hide (O.out y rfl).1
        have C2 := hide (fun W (hh : RdP W (.slice (some ⟨gb, off, none⟩) xs.length cap) xs) => countOf_calls (.slice (some ⟨gb, off, none⟩) xs.length cap) xs y.1 W hh OK.out y0.out.1 hl)
        have S2 : Hid (rt (k + 1) = if 3 ≤ cntE (xs.map epo) y.1 xs.length then max q y.1 else q) := S.out
        have cle := cntE_le (xs.map epo) y.1 xs.length
        generalize pv (some y) = u at hc C
        generalize y.1 = E at C y0 C2 S2 cle
        generalize cntE (xs.map epo) E xs.length = n at C2 S2 cle
        clear S O
        go_wp2_with fail
        refine (C.out _).mono ?_
        rintro e w1 ⟨rfl, qq⟩
        have B1 := hide (HB.out.trans (qq.mono HB.out.size))
        clear qq hc
        go_wp2_with fail
        refine (C2.out _ (R.out.below B1.out)).mono ?_
        rintro e w2 ⟨rfl, qq⟩
        have B2 := hide (B1.out.trans (qq.mono B1.out.size))
        clear qq
        by_cases h3 : 3 ≤ n
        · have h3' : (3 : Int) ≤ (n : Int) := by omega
          have e1 : Hid (rt (k + 1) = max q E) := by show _ = _; rw [S2.out, if_pos h3]
          clear S2
          go_wp2
          go_roundw
          case rel => exact ⟨k + 1, by omega, by go_num, by rw [e1.out]; first | rfl | (congr 1; omega), B2.out⟩
          case measure => simp [intOf]; omega
        · have h3' : ¬ (3 : Int) ≤ (n : Int) := by omega
          have e1 : Hid (rt (k + 1) = q) := by show _ = _; rw [S2.out, if_neg h3]
          clear S2
          go_wp2
          go_roundw
          case rel => exact ⟨k + 1, by omega, by go_num, by rw [e1.out], B2.out⟩
          case measure => simp [intOf]; omega
    · obtain rfl : k = xs.length := by omega
      clear hb
      go_wp2
      go_ret
      exact ⟨rfl, HB.out⟩
end Go.Proofs.Ytiojipicincgfaa

/-
  The Epochs of the pieces that the program has found: epochOf, isOf, countOf, rightEpoch, call by call. Each contract says what it asks. A stripe found: the program's findStripe. The contract says what it asks. 'append(l, k)': one integer behind a row of the call's own, and where it lies then. No call is walked here. Whether a stripe lies on a disk: the program's liesOn. No condition but that the number is one of 64 bits.
-/
import Derived.Test.YtbgadbokejaomaaHealthOfB11
import Derived.Test.YtbgadbokejaomaaHealthOfB4
import Derived.Deep.AppendLies
namespace Go.Proofs.Ytbgadbokejaomaa
open Go.RowKit
set_option linter.unusedVariables false

abbrev Pc := Option (Int × ByteArray)
/-- The value v is a slice that reads as these pieces. -/
def RdP (w : World) (v : Value) (xs : List Pc) : Prop :=
  ∃ a cap, v = .slice a xs.length cap ∧ xs.length ≤ cap ∧ (cap ≤ maxLen ∧ (a = none → cap = 0)) ∧ (xs = [] ∨ ∃ b off, a = some ⟨b, off, none⟩ ∧ b < w.heap.size ∧ ∀ i, i < xs.length → w.cell? ⟨b, off + i, none⟩ = some (pv (xs.getD i none)))
abbrev OwnP (w : World) (base : Nat) (v : Value) (xs : List Pc) : Prop := w.ownsRow base 69 1 v xs.length (xs.map pv)
theorem RdP.below {w w' : World} {v : Value} {xs : List Pc} (h : RdP w v xs) (hb : Below w.heap.size w w') : RdP w' v xs := by
  obtain ⟨a, cap, rfl, h1, h2, h3⟩ := h
  refine ⟨a, cap, rfl, h1, h2, ?_⟩
  rcases h3 with h3 | ⟨b, off, rfl, hlt, hc⟩
  · exact .inl h3
  · exact .inr ⟨b, off, rfl, Nat.lt_of_lt_of_le hlt hb.size, fun i hi => (hb.cell (p := ⟨b, off + i, none⟩) hlt).trans (hc i hi)⟩
theorem OwnP.rd {w : World} {base : Nat} {v : Value} {xs : List Pc} (h : OwnP w base v xs) : RdP w v xs := by
  rcases h.2 with ⟨rfl, hn⟩ | ⟨g, cap, cur, rfl, hb, hg, hc, hm, hs, ht⟩
  · have : xs = [] := List.eq_nil_of_length_eq_zero hn
    subst this
    exact ⟨none, 0, rfl, Nat.le_refl _, ⟨Nat.zero_le _, fun _ => rfl⟩, .inl rfl⟩
  · refine ⟨_, cap, rfl, hc, ⟨hm, fun h => by cases h⟩, .inr ⟨g, 0, rfl, (Array.getElem?_eq_some_iff.1 hg).1, fun i hi => ?_⟩⟩
    have := World.ownsRow.cellAt h i (by omega)
    rw [Nat.zero_add, this]
    simp [hi]
theorem RdP.sl {w : World} {v : Value} {xs : List Pc} (h : RdP w v xs) : ∃ a cap, v = .slice a xs.length cap ∧ xs.length ≤ cap ∧ cap ≤ maxLen := by
  obtain ⟨a, cap, rfl, h1, h2, _⟩ := h
  exact ⟨a, cap, rfl, h1, h2.1⟩
theorem RdP.cell {w : World} {a : Option Addr} {n cap : Nat} {xs : List Pc} (h : RdP w (.slice a n cap) xs) (k : Nat) (hk : k < xs.length) : ∃ b off, a = some ⟨b, off, none⟩ ∧ w.cell? ⟨b, off + k, none⟩ = some (pv (xs.getD k none)) ∧ b < w.heap.size := by
  obtain ⟨a', cap', e, h1, h2, h3⟩ := h
  simp only [Value.slice.injEq] at e
  obtain ⟨rfl, _, rfl⟩ := e
  rcases h3 with h3 | ⟨b, off, rfl, hlt, hc⟩
  · subst h3; simp at hk
  · exact ⟨b, off, rfl, hc k hk, hlt⟩
theorem map_getD (xs : List Pc) (k : Nat) (h : k < xs.length) : (xs.map epo).getD k 0 = epo (xs.getD k none) := by
  rw [List.getD_eq_getElem?_getD, List.getD_eq_getElem?_getD, List.getElem?_map, List.getElem?_eq_getElem h]
  rfl

theorem asF_yes (v : Value) (w : World) : (Instr.typeAssert (.iface 73 v) 69 73 true).run Try.prog w = .ok (.tuple #[v, .bool true]) w := by kernel_rfl
theorem asF_no (v : Value) (w : World) : (Instr.typeAssert (.iface 71 v) 69 73 true).run Try.prog w = .ok (.tuple #[.agg #[.int .i64 0, .string ⟨#[]⟩], .bool false]) w := by kernel_rfl
theorem asL_yes (v : Value) (w : World) : (Instr.typeAssert (.iface 71 v) 69 71 true).run Try.prog w = .ok (.tuple #[v, .bool true]) w := by kernel_rfl
theorem asL_no (v : Value) (w : World) : (Instr.typeAssert (.iface 73 v) 69 71 true).run Try.prog w = .ok (.tuple #[.agg #[], .bool false]) w := by kernel_rfl

set_option maxRecDepth 100000 in
theorem epochOf_none (w : World) : Calls Try.prog 42 #[pv none] w fun e w' => e = .returned (.tuple #[.int .i64 0, .bool false]) ∧ Below w.heap.size w w' := by
  show Calls _ _ #[.iface 71 (.agg #[])] _ _
  have f1 := asF_no (.agg #[])
  go_enter Try.func42, Try.ntmps42
  go_wp2
  go_ret2
  exact ⟨rfl, Below.refl _ _⟩
set_option maxRecDepth 100000 in
theorem epochOf_some (y : Int × ByteArray) (w : World) : Calls Try.prog 42 #[pv (some y)] w fun e w' => e = .returned (.tuple #[.int .i64 y.1, .bool true]) ∧ Below w.heap.size w w' := by
  obtain ⟨e, b⟩ := y
  show Calls _ _ #[.iface 73 (.agg #[.int .i64 e, .string b])] _ _
  have HB := hide (below_box w (.cells #[.int .i64 e, .string b] 73))
  have f1 := asF_yes (.agg #[.int .i64 e, .string b])
  go_enter Try.func42, Try.ntmps42
  go_wp2
  go_ret2
  exact ⟨rfl, HB.out⟩
theorem isE_none (r : Int) : isE r (epo none) = false := decide_eq_false (fun h => by have := h.2; simp [epo] at this)
theorem isE_some (r : Int) {y : Int × ByteArray} (h : okP (some y)) : isE r (epo (some y)) = decide (y.1 = r) := by
  unfold isE
  have := (h y rfl).1.1
  exact decide_eq_decide.2 ⟨fun h => h.1, fun h' => ⟨h', this⟩⟩

set_option maxRecDepth 100000 in
theorem isOf_calls (x : Pc) (r : Int) (w : World) (hx : okP x) : Calls Try.prog 54 #[pv x, .int .i64 r] w fun e w' => e = .returned (.bool (isE r (epo x))) ∧ Below w.heap.size w w' := by
  cases x with
  | none =>
    rw [isE_none]
    obtain ⟨v, hv⟩ : ∃ v, v = pv none := ⟨_, rfl⟩
    have C := hide (fun W => epochOf_none W)
    rw [← hv] at C ⊢
    clear hv
    go_enter Try.func54, Try.ntmps54
    go_wp2_with fail
    refine (C.out _).mono ?_
    rintro e w1 ⟨rfl, q⟩
    have Q := hide q
    clear q
    go_wp2
    go_ret
    exact ⟨rfl, Q.out⟩
  | some y =>
    rw [isE_some r hx]
    obtain ⟨v, hv⟩ : ∃ v, v = pv (some y) := ⟨_, rfl⟩
    have C := hide (fun W => epochOf_some y W)
    rw [← hv] at C ⊢
    clear hv hx
    generalize y.1 = E at C
    by_cases h : E = r
    · rw [decide_eq_true h]
      subst h
      go_enter Try.func54, Try.ntmps54
      go_wp2_with fail
      refine (C.out _).mono ?_
      rintro e w1 ⟨rfl, q⟩
      have Q := hide q
      clear q
      go_wp2
      go_ret
      exact ⟨rfl, Q.out⟩
    · rw [decide_eq_false h]
      have hb : (E == r) = false := by simpa using h
      go_enter Try.func54, Try.ntmps54
      go_wp2_with fail
      refine (C.out _).mono ?_
      rintro e w1 ⟨rfl, q⟩
      have Q := hide q
      clear q
      go_wp2
      go_ret
      exact ⟨rfl, Q.out⟩

set_option maxRecDepth 100000 in
set_option maxHeartbeats 800000 in
theorem countOf_calls (v : Value) (xs : List Pc) (r : Int) (w : World) (h : RdP w v xs) (hok : ∀ k, okP (xs.getD k none)) (hr : 0 ≤ r) (hl : xs.length ≤ 24) :
    Calls Try.prog 43 #[v, .int .i64 r] w fun e w' => e = .returned (.int .i64 ((cntE (xs.map epo) r xs.length : Nat) : Int)) ∧ Below w.heap.size w w' := by
  have R := hide h
  have OK := hide hok
  have HR := hide hr
  obtain ⟨a, cap, rfl, m1, _⟩ := h.sl
  clear h hok m1
  obtain ⟨cn, hcn⟩ : ∃ cn : Nat → Nat, cn = cntE (xs.map epo) r := ⟨_, rfl⟩
  have h0 : cn 0 = 0 := by rw [hcn]; rfl
  have hs : ∀ k, k < xs.length → cn (k + 1) = cn k + (if isE r (epo (xs.getD k none)) = true then 1 else 0) := by
    intro k hk
    rw [hcn]
    show cntE _ _ k + _ = _
    congr 1
    rw [map_getD xs k hk]
    unfold isE
    have hh : (epo (xs.getD k none) = r ∧ 0 ≤ epo (xs.getD k none)) ↔ epo (xs.getD k none) = r := ⟨fun h => h.1, fun h => ⟨h, by omega⟩⟩
    simp only [decide_eq_true_eq, hh]
  have hle : ∀ k, cn k ≤ k := by intro k; rw [hcn]; exact cntE_le _ _ _
  rw [← hcn]
  have HS := hide hs
  have HL := hide hle
  have H0 := hide h0
  clear hcn hs hle h0 hr
  go_enter Try.func43, Try.ntmps43
  go_wp2
  go_loopw [5, 7, 10] (fun vn _ vi wr => ∃ k : Nat, k ≤ xs.length ∧ vi = .int .i64 k ∧ vn = .int .i64 (cn k : Int) ∧ Below w.heap.size w wr) (fun _ _ vi _ => xs.length - (intOf vi).toNat)
  case atStart => exact ⟨0, Nat.zero_le _, rfl, by rw [H0.out]; rfl, Below.refl _ _⟩
  case round =>
    obtain ⟨k, hk, rfl, rfl, hb⟩ := hrel
    have HB := hide hb
    by_cases hlt : k < xs.length
    · obtain ⟨gb, off, rfl, hc, _⟩ := (R.out.below hb).cell k hlt
      have hlt' : (k : Int) < (xs.length : Int) := by omega
      have C := hide (fun W => isOf_calls (xs.getD k none) r W (OK.out k))
      have S := hide (HS.out k hlt)
      generalize epo (xs.getD k none) = ee at C S
      generalize isE r ee = yes at C S
      generalize pv (xs.getD k none) = u at hc C
      have hcl := HL.out k
      clear hb
      go_wp2_with fail
      refine (C.out _).mono ?_
      rintro e w1 ⟨rfl, q⟩
      have B1 := hide (HB.out.trans (q.mono HB.out.size))
      clear q hc
      cases yes with
      | true =>
        go_wp2
        go_roundw
        case rel => exact ⟨k + 1, by omega, by go_num, by rw [S.out]; simp only [if_pos]; go_num, B1.out⟩
        case measure => simp [intOf]; omega
      | false =>
        go_wp2
        go_roundw
        case rel => exact ⟨k + 1, by omega, by go_num, by rw [S.out]; simp, B1.out⟩
        case measure => simp [intOf]; omega
    · obtain rfl : k = xs.length := by omega
      clear hb
      go_wp2
      go_ret
      exact ⟨rfl, HB.out⟩

set_option maxRecDepth 100000 in
set_option maxHeartbeats 1600000 in
theorem rightEpoch_calls (v : Value) (xs : List Pc) (w : World) (h : RdP w v xs) (hok : ∀ k, okP (xs.getD k none)) (hl : xs.length ≤ 24) :
    Calls Try.prog 37 #[v] w fun e w' => e = .returned (.int .i64 (rtE (xs.map epo) xs.length)) ∧ Below w.heap.size w w' := by
  have R := hide h
  have OK := hide hok
  obtain ⟨a, cap, rfl, m1, _⟩ := h.sl
  clear h hok m1
  obtain ⟨rt, hrt⟩ : ∃ rt : Nat → Int, rt = rtE (xs.map epo) := ⟨_, rfl⟩
  have h0 : rt 0 = -1 := by rw [hrt]; rfl
  have hge : ∀ k, -1 ≤ rt k := by intro k; rw [hrt]; exact rtE_ge _ _
  have hs : ∀ k, k < xs.length → rt (k + 1) = if 3 ≤ cntE (xs.map epo) (epo (xs.getD k none)) xs.length then max (rt k) (epo (xs.getD k none)) else rt k := by
    intro k hk
    rw [hrt]
    show (if 3 ≤ cntE (xs.map epo) ((xs.map epo).getD k 0) (xs.map epo).length then max (rtE (xs.map epo) k) ((xs.map epo).getD k 0) else rtE (xs.map epo) k) = _
    rw [map_getD xs k hk, List.length_map]
  rw [← hrt]
  have HS := hide hs
  have HG := hide hge
  have H0 := hide h0
  clear hrt hs hge h0
  go_enter Try.func37, Try.ntmps37
  go_wp2
  go_loopw [3, 5, 6, 7, 10] (fun vr _ _ _ vi wr => ∃ k : Nat, k ≤ xs.length ∧ vi = .int .i64 k ∧ vr = .int .i64 (rt k) ∧ Below w.heap.size w wr) (fun _ _ _ _ vi _ => xs.length - (intOf vi).toNat)
  case atStart => exact ⟨0, Nat.zero_le _, rfl, by rw [H0.out], Below.refl _ _⟩
  case round =>
    obtain ⟨k, hk, rfl, rfl, hb⟩ := hrel
    have HB := hide hb
    by_cases hlt : k < xs.length
    · obtain ⟨gb, off, rfl, hc, _⟩ := (R.out.below hb).cell k hlt
      have hlt' : (k : Int) < (xs.length : Int) := by omega
      have S := hide (HS.out k hlt)
      have G := hide (HG.out k)
      have O := hide (OK.out k)
      generalize rt k = q at S G
      generalize xs.getD k none = x at hc S O
      clear hb
      cases x with
      | none =>
        have C := hide (fun W => epochOf_none W)
        have e1 : Hid (rt (k + 1) = q) := by
          show rt (k + 1) = q
          rw [S.out]
          have := G.out
          split
          · exact Int.max_eq_left (by simp only [epo]; exact this)
          · rfl
        generalize pv none = u at hc C
        clear S O
        go_wp2_with fail
        refine (C.out _).mono ?_
        rintro e w1 ⟨rfl, q⟩
        have B1 := hide (HB.out.trans (q.mono HB.out.size))
        clear q hc
        go_wp2
        go_roundw
        case rel => exact ⟨k + 1, by omega, by go_num, by rw [e1.out], B1.out⟩
        case measure => simp [intOf]; omega
      | some y =>
        have C := hide (fun W => epochOf_some y W)
        have y0 := hide (O.out y rfl).1
        have C2 := hide (fun W (hh : RdP W (.slice (some ⟨gb, off, none⟩) xs.length cap) xs) => countOf_calls (.slice (some ⟨gb, off, none⟩) xs.length cap) xs y.1 W hh OK.out y0.out.1 hl)
        have S2 : Hid (rt (k + 1) = if 3 ≤ cntE (xs.map epo) y.1 xs.length then max q y.1 else q) := S.out
        have cle := cntE_le (xs.map epo) y.1 xs.length
        generalize pv (some y) = u at hc C
        generalize y.1 = E at C y0 C2 S2 cle
        generalize cntE (xs.map epo) E xs.length = n at C2 S2 cle
        clear S O
        go_wp2_with fail
        refine (C.out _).mono ?_
        rintro e w1 ⟨rfl, qq⟩
        have B1 := hide (HB.out.trans (qq.mono HB.out.size))
        clear qq hc
        go_wp2_with fail
        refine (C2.out _ (R.out.below B1.out)).mono ?_
        rintro e w2 ⟨rfl, qq⟩
        have B2 := hide (B1.out.trans (qq.mono B1.out.size))
        clear qq
        by_cases h3 : 3 ≤ n
        · have h3' : (3 : Int) ≤ (n : Int) := by omega
          have e1 : Hid (rt (k + 1) = max q E) := by show _ = _; rw [S2.out, if_pos h3]
          clear S2
          go_wp2
          go_roundw
          case rel => exact ⟨k + 1, by omega, by go_num, by rw [e1.out]; first | rfl | (congr 1; omega), B2.out⟩
          case measure => simp [intOf]; omega
        · have h3' : ¬ (3 : Int) ≤ (n : Int) := by omega
          have e1 : Hid (rt (k + 1) = q) := by show _ = _; rw [S2.out, if_neg h3]
          clear S2
          go_wp2
          go_roundw
          case rel => exact ⟨k + 1, by omega, by go_num, by rw [e1.out], B2.out⟩
          case measure => simp [intOf]; omega
    · obtain rfl : k = xs.length := by omega
      clear hb
      go_wp2
      go_ret
      exact ⟨rfl, HB.out⟩
end Go.Proofs.Ytbgadbokejaomaa

namespace Go.Proofs.Ytbgadbokejaomaa
open Go.RowKit
set_option linter.unusedVariables false

theorem infoPc : (Try.prog.info? 69).map (fun i => (i.zero, i.size, i.bytes)) = some (some .nilIface, 1, 16) := by kernel_rfl
theorem fsInfo : (Try.prog.info? 52).map (·.size) = some 2 := by kernel_rfl
/-- 'make([]stripePiece, n)': in the next block. -/
theorem wpList_make_pcs {w : World} {ops : Array Oper} {rest : List Oper} {o : Oper} {a : Act} {Q : Exit → Act → World → Prop} (hg : o.guard = none) (l c : Operand) (hop : o.op = Op.makeSlice 50 l c)
    (base : Nat) (L C : Int) (n : Nat) (hl : a.eval l = .int .i64 L) (hc : a.eval c = .int .i64 C) (hL : L = (n : Int)) (hC : C = (n : Int)) (hn : n ≤ 1048576) (hb : base ≤ w.heap.size)
    (h : ∀ w', w'.ownsRow base 69 1 (.slice (some ⟨w.heap.size, 0, none⟩) n n) n (List.replicate n .nilIface) → w.grownBy w' none → wpList Try.prog ops Q rest (a.put o.dst (.slice (some ⟨w.heap.size, 0, none⟩) n n)) w') : wpList Try.prog ops Q (o :: rest) a w := by
  obtain ⟨i0, hi, hz0, hz1, hz2⟩ := info_parts infoPc
  refine wpList_make_full w hg l c _ hop base 69 i0 .nilIface 1 Try.underlying50 hi hz0 hz1 _ _ L C n hl hc hL hC (by rw [hz2]; omega) (by unfold maxLen; omega) hb ?_
  intro w' ho hg'
  refine h w' ?_ hg'
  have e : (madeCells (Value.nilIface).cells (n * 1)).toList = List.replicate n Value.nilIface := by
    rw [Nat.mul_one]; exact toList_madeCells_one _ n
  rw [e] at ho
  exact ho
/-- What is laid so far. -/
def cpI (vs : List Value) (k : Nat) : List Value := vs.take k ++ List.replicate (vs.length - k) .nilIface
theorem cpI_length (vs : List Value) (k : Nat) (h : k ≤ vs.length) : (cpI vs k).length = vs.length := by simp [cpI]; omega
theorem cpI_step (vs : List Value) (k : Nat) (h : k < vs.length) : (cpI vs k).set k (vs.getD k .nilIface) = cpI vs (k + 1) := by
  unfold cpI
  have e : vs.length - k = (vs.length - (k + 1)) + 1 := by omega
  rw [e, List.replicate_succ, List.set_append_right _ _ (by simp; omega), List.take_succ_eq_append_getElem h]
  have e2 : k - (vs.take k).length = 0 := by simp; omega
  rw [e2, List.set_cons_zero, List.append_assoc, List.getD_eq_getElem?_getD, List.getElem?_eq_getElem h]
  rfl
theorem cpI_end (vs : List Value) : cpI vs vs.length = vs := by simp [cpI]
theorem cpI_zero (vs : List Value) : cpI vs 0 = List.replicate vs.length .nilIface := by simp [cpI]
/-- A row of the call's own, of any type. -/
def TVals (v : Value) (n : Nat) (e : TypeId) (xs : List Value) : Tg := fun lo hi w => w.ownsRow lo e 1 v n xs ∧ ∀ k, v.ownBlock = some k → k < hi
theorem TVals.st (v : Value) (n : Nat) (e : TypeId) (xs : List Value) : (TVals v n e xs).st := fun lo hi a b w w' h hc hd => ⟨ownsRow_chg h.1 h.2 hc hd, h.2⟩
theorem Hand.stored {W w : World} {L : List Tg} {e : TypeId} {g n cap : Nat} {xs : List Value} (h : Hand W w L) (i : Nat) (hi : L[i]? = some (TVals (.slice (some ⟨g, 0, none⟩) n cap) n e xs)) (k : Nat) (hk : k < n) (v : Value) :
    Hand W (w.setCell ⟨g, k, none⟩ v) (L.set i (TVals (.slice (some ⟨g, 0, none⟩) n cap) n e (xs.set k v))) ∧ w.frozen? ⟨g, k, none⟩ = false ∧ ∃ old, w.cell? ⟨g, k, none⟩ = some old := by
  obtain ⟨lo, hi', ⟨o, t⟩, hb, ht, put⟩ := h.open i hi
  have hl : xs.length = n := by have := o.1; simpa using this
  refine ⟨put _ _ (TVals.st _ _ _ _) ⟨(o.stored k v).1, t⟩ (Chg.ofSetCell w g k v (row_low o g rfl) (t g rfl)), o.frozenAt k, ?_⟩
  rw [o.cellAt k (by omega)]
  exact ⟨_, List.getElem?_eq_getElem (by omega)⟩
theorem results_found {fn : Func} {p : Tmp} (hf : fn.results = #[.cell p 52]) (tmps : Array Value) (w : World) (g : Nat) (x y : Value) (fr : Nat × Nat) (hp : tmps.getD p undef = .pointer (some ⟨g, 0, none⟩))
    (hg : w.heap[g]? = some (.cells #[x, y] 52 fr)) : (results fn tmps).run Try.prog w = .ok (.agg #[x, y]) w :=
  results_cell_row hf tmps w g _ _ fr _ hp hg Try.underlying52 rfl fsInfo
theorem pv_iface (x : Pc) : ∃ t y, pv x = .iface t y := by
  cases x with
  | none => exact ⟨_, _, rfl⟩
  | some y => exact ⟨_, _, rfl⟩
/-- What the five sectors from A on tell. -/
def skL (P H : List ByteArray) (B : List Bool) (least : Int) (A : Nat) : List Pc := (List.range 5).map fun k => sk P H B least (A + k)
theorem skL_length (P H : List ByteArray) (B : List Bool) (least : Int) (A : Nat) : (skL P H B least A).length = 5 := by simp [skL]
theorem skL_get (P H : List ByteArray) (B : List Bool) (least : Int) (A k : Nat) (h : k < 5) : (skL P H B least A).getD k none = sk P H B least (A + k) := by simp [skL, List.getD_eq_getElem?_getD, h]
theorem skL_ok (P H : List ByteArray) (B : List Bool) (least : Int) (A : Nat) : ∀ k, okP ((skL P H B least A).getD k none) := by
  intro k
  by_cases h : k < 5
  · rw [skL_get _ _ _ _ _ _ h]
    exact sk_ok _ _ _ _ _
  · intro y hy
    rw [List.getD_eq_getElem?_getD, List.getElem?_eq_none (by rw [skL_length]; omega)] at hy
    simp at hy

set_option maxRecDepth 100000 in
set_option maxHeartbeats 1600000 in
theorem findStripe_calls (p h b : Value) (P H : List ByteArray) (B : List Bool) (A : Nat) (least : Int) (w : World) (gk : gkP P H B) (hA : A + 5 ≤ P.length) (hp : RdT w p P) (hh : RdT w h H) (hb : RdZ w b B) :
    Calls Try.prog 23 #[.agg #[p, h, b], .int .i64 (A : Int), .int .i64 least] w fun e w' => ∃ v, e = .returned (.agg #[v, .int .i64 (rtE ((skL P H B least A).map epo) 5)]) ∧ OwnP w' w.heap.size v (skL P H B least A) ∧ Below w.heap.size w w' := by
  have RP := hide hp
  have RH := hide hh
  have RB := hide hb
  have GK := hide gk
  have h24 : P.length ≤ 24 := gk.1.2
  obtain ⟨xs, hxs⟩ : ∃ xs, xs = skL P H B least A := ⟨_, rfl⟩
  have xl : xs.length = 5 := by rw [hxs, skL_length]
  have FP : Hid (∀ k : Nat, k < 5 → ∀ W, RdT W p P → RdT W h H → RdZ W b B → Calls Try.prog 36 #[.agg #[p, h, b], .int .i64 ((A : Int) + (k : Int)), .int .i64 least] W fun e w' => e = .returned ((xs.map pv).getD k .nilIface) ∧ Below W.heap.size W w') := by
    show ∀ k : Nat, _
    intro k hk W h1 h2 h3
    have e1 : (xs.map pv).getD k .nilIface = pv (sk P H B least (A + k)) := by
      rw [← skL_get P H B least A k hk, ← hxs, List.getD_eq_getElem?_getD, List.getD_eq_getElem?_getD, List.getElem?_map, List.getElem?_eq_getElem (by omega)]
      rfl
    rw [e1, show ((A : Int) + (k : Int)) = ((A + k : Nat) : Int) by omega]
    exact findPiece_calls p h b P H B (A + k) least W GK.out (by omega) h1 h2 h3
  have RT : Hid (∀ W v, RdP W v xs → Calls Try.prog 37 #[v] W fun e w' => e = .returned (.int .i64 (rtE (xs.map epo) 5)) ∧ Below W.heap.size W w') := by
    show ∀ W v, _
    intro W v hv
    have := rightEpoch_calls v xs W hv (by rw [hxs]; exact skL_ok _ _ _ _ _) (by omega)
    rw [xl] at this
    exact this
  rw [← hxs]
  clear hxs
  generalize rtE (xs.map epo) 5 = rt at RT
  have XL := hide xl
  have VL : Hid ((xs.map pv).length = 5) := by show _ = _; rw [List.length_map]; exact xl
  have A0 := hide (((Hand.start w).box #[p, h, b] 32).box #[.slice none 0 0, .int .i64 0] 52)
  clear gk hp hh hb xl
  go_enter Try.func23, Try.ntmps23
  go_wp2_with (at_make; refine wpList_make_pcs rfl _ _ rfl _ _ _ 5 rfl rfl (by omega) (by omega) (by omega) (Nat.le_refl _) ?_)
  intro w0 ho0 hg0
  have A1 : Hid (Hand w w0 [TVals (.slice (some ⟨w.heap.size + 1 + 1, 0, none⟩) 5 5) 5 69 (List.replicate 5 .nilIface), TBox (w.heap.size + 1) #[.slice none 0 0, .int .i64 0] 52, TBox w.heap.size #[p, h, b] 32]) := by
    show Hand _ _ _
    have := A0.out.add (t := TVals (.slice (some ⟨w.heap.size + 1 + 1, 0, none⟩) 5 5) 5 69 (List.replicate 5 .nilIface)) ((Below.refl _ _).grown hg0 (Nat.le_refl _) (fun k h => by cases h)) (TVals.st _ _ _ _) ⟨by simpa using ho0, fun k hk => row_top ho0 k hk⟩
    simpa using this
  clear ho0 hg0 A0
  go_wp2
  go_loopw [8, 12] (fun _ vi wr => ∃ k : Nat, k ≤ 5 ∧ vi = .int .i64 k ∧ Hand w wr [TVals (.slice (some ⟨w.heap.size + 1 + 1, 0, none⟩) 5 5) 5 69 (cpI (xs.map pv) k), TBox (w.heap.size + 1) #[.slice none 0 0, .int .i64 0] 52, TBox w.heap.size #[p, h, b] 32]) (fun _ vi _ => 5 - (intOf vi).toNat)
  case atStart =>
    refine ⟨0, Nat.zero_le _, rfl, ?_⟩
    rw [cpI_zero, VL.out]
    exact A1.out
  case round =>
    obtain ⟨k, hk, rfl, hH⟩ := hrel
    have AH := hide hH
    clear hH
    by_cases hlt : k < 5
    · have hlt' : (k : Int) < 5 := by omega
      obtain ⟨c0, c1, c2⟩ := (AH.out.atBox 2 rfl).c3
      have C := hide (FP.out k hlt)
      have STP := hide (cpI_step (xs.map pv) k (by rw [VL.out]; exact hlt))
      obtain ⟨ut, uy, hu⟩ : ∃ t y, (xs.map pv).getD k .nilIface = .iface t y := by
        rw [List.getD_eq_getElem?_getD, List.getElem?_map, List.getElem?_eq_getElem (by rw [XL.out]; exact hlt)]
        exact pv_iface _
      rw [hu] at C STP
      clear hu
      go_wp2_with fail
      refine (C.out _ (RP.out.below AH.out.below) (RH.out.below AH.out.below) (RB.out.below AH.out.below)).mono ?_
      rintro e w1 ⟨rfl, q⟩
      obtain ⟨hH2, hfz, old, hold⟩ := (AH.out.step q).stored 0 rfl k hlt (.iface ut uy)
      have A2 := hide hH2
      clear q c0 c1 c2 hH2
      go_wp2
      go_roundw
      case rel =>
        refine ⟨k + 1, by omega, by go_num, ?_⟩
        have := A2.out
        rw [STP.out] at this
        exact this
      case measure => simp [intOf]; omega
    · obtain rfl : k = 5 := by omega
      have AH2 : Hid (Hand w wr [TVals (.slice (some ⟨w.heap.size + 1 + 1, 0, none⟩) 5 5) 5 69 (xs.map pv), TBox (w.heap.size + 1) #[.slice none 0 0, .int .i64 0] 52, TBox w.heap.size #[p, h, b] 32]) := by
        have := AH.out
        have e := cpI_end (xs.map pv)
        rw [VL.out] at e
        rw [e] at this
        exact this
      clear AH
      obtain ⟨lo, hi, ⟨o, tp⟩⟩ := AH2.out.get 0 rfl
      have R5 : Hid (RdP wr (.slice (some ⟨w.heap.size + 1 + 1, 0, none⟩) 5 5) xs) := by
        show RdP _ _ _
        apply OwnP.rd (base := lo)
        show World.ownsRow _ _ _ _ _ xs.length _
        rw [XL.out]
        exact o
      clear o tp
      go_wp2_with fail
      refine (RT.out _ _ R5.out).mono ?_
      rintro e w1 ⟨rfl, q⟩
      have A3 := hide (AH2.out.step q)
      have hbx := A3.out.atBox 1 rfl
      obtain ⟨c0, c1⟩ : w1.cell? ⟨w.heap.size + 1, 0, none⟩ = some (.slice none 0 0) ∧ w1.cell? ⟨w.heap.size + 1, 1, none⟩ = some (.int .i64 0) := ⟨hbx.cell 0, hbx.cell 1⟩
      have f0 := hbx.frozen 0
      have f1 := hbx.frozen 1
      have BX := hide hbx
      clear hbx q R5
      obtain ⟨lo, hi, ⟨x1, x2, x3⟩, y1, y2, put⟩ := A3.out.open 1 rfl
      have A4 := hide (put _ (TBox (w.heap.size + 1) #[.slice (some ⟨w.heap.size + 1 + 1, 0, none⟩) 5 5, .int .i64 rt] 52) (TBox.st _ _ _) ⟨x1, x2, by simpa using (x3.set 0 (.slice (some ⟨w.heap.size + 1 + 1, 0, none⟩) 5 5)).set 1 (.int .i64 rt)⟩ ((Chg.ofSetCell _ _ _ _ x1 x2).trans (Chg.ofSetCell _ _ _ _ x1 x2)))
      clear put y1 y2 x1 x2 x3
      go_wp2
      refine bodyPost_ret (results_found rfl _ _ (w.heap.size + 1) _ _ (0, 0) rfl (A4.out.atBox 1 rfl)) rfl ⟨_, rfl, ?_, A4.out.below⟩
      obtain ⟨lo, hi, ⟨o, tp⟩, lw, _⟩ := A4.out.open 0 rfl
      show World.ownsRow _ _ _ _ _ xs.length _
      rw [XL.out]
      exact ownsRow_mono o lw
end Go.Proofs.Ytbgadbokejaomaa

namespace Go.Proofs.Ytbgadbokejaomaa
open Go.RowKit
/-- One integer behind a row of the call's own, and where it lies then. -/
theorem wpList_append_int1 {w : World} {ops : Array Oper} {rest : List Oper} {o : Oper} {a : Act} {Q : Exit → Act → World → Prop} (hgd : o.guard = none) (s x : Operand)
    (ho : o.op = .call { callee := .builtin .append, args := #[s, x], argTypes := #[27, 27] })
    (base : Nat) (v : Value) (n : Nat) (xs : List Int) (z : Int) (hs : a.eval s = v) (hown : w.ownsRow base 3 1 v n (xs.map (Value.int .i64))) (gx : Nat) (hx : a.eval x = .slice (some ⟨gx, 0, none⟩) 1 1) (hc : w.cell? ⟨gx, 0, none⟩ = some (.int .i64 z))
    (hm : n ≤ 1000) (hbase : base ≤ w.heap.size)
    (h : ∀ g cap w', w'.ownsRow base 3 1 (.slice (some ⟨g, 0, none⟩) (n + 1) cap) (n + 1) ((xs ++ [z]).map (Value.int .i64)) → w.grownBy w' v.ownBlock → (v.ownBlock = some g ∨ g = w.heap.size) → g < w'.heap.size → wpList Try.prog ops Q rest (a.put o.dst (.slice (some ⟨g, 0, none⟩) (n + 1) cap)) w') : wpList Try.prog ops Q (o :: rest) a w := by
  obtain ⟨i0, hi, hz0, hz1, hz2⟩ := info_parts infoInt
  refine wpList_append_lies (w := w) hgd s x _ ho base _ i0 (.int .i64 0) 1 8 Try.underlying27 hi hz0 hz1 hz2 rfl (by decide) v n _ hs hown ⟨gx, 0, none⟩ 1 1 ([z].map (Value.int .i64)) hx (by simp) ?_ (ints_oneCell _ _) (by decide) (by unfold maxLen; omega) (by omega) hbase _ rfl ?_
  · intro j u hu
    have : j = 0 := by
      have := (List.getElem?_eq_some_iff.1 hu).1
      simpa using this
    subst this
    simp at hu
    subst hu
    simpa [Addr.add] using hc
  · intro g cap w' h1 h2 h3 h4
    rw [← List.map_append] at h1
    exact h g cap w' h1 h2 h3 h4
end Go.Proofs.Ytbgadbokejaomaa

namespace Go.Proofs.Ytbgadbokejaomaa
open Go.RowKit
set_option linter.unusedVariables false

set_option maxRecDepth 100000 in
theorem liesOn_calls (p h b : Value) (P H : List ByteArray) (B : List Bool) (A : Int) (f : Bool) (w : World) (hf : f = true ↔ (gkP P H B ∧ ftP P A)) (hwf : (Lit.int .i64 A).wf = true) (hp : RdT w p P) (hh : RdT w h H) (hb : RdZ w b B) :
    Calls Try.prog 21 #[.agg #[p, h, b], .int .i64 A] w fun e w' => e = .returned (.bool f) ∧ Below w.heap.size w w' := by
  obtain ⟨g, hg⟩ := gk_bool' P H B
  have C := hide (fun W h1 h2 h3 => fitsStripe_calls p h b P H B A g f W hg hf hwf h1 h2 h3)
  have FG : Hid (f = true → g = true) := fun e => hg.2 (hf.1 e).1
  have RP := hide hp
  have RH := hide hh
  have RB := hide hb
  have A0 := hide ((Hand.start w).box #[p, h, b] 32)
  clear hf hg hp hh hb hwf
  go_enter Try.func21, Try.ntmps21
  go_wp2_with fail
  refine (C.out _ (RP.out.below A0.out.below) (RH.out.below A0.out.below) (RB.out.below A0.out.below)).mono ?_
  rintro e w1 ⟨rfl, q⟩
  have A1 := hide (A0.out.step q)
  clear q A0
  cases f with
  | false =>
    go_wp2
    go_ret
    exact ⟨rfl, A1.out.below⟩
  | true =>
    obtain rfl := FG.out rfl
    go_wp2
    go_ret
    exact ⟨rfl, A1.out.below⟩

end Go.Proofs.Ytbgadbokejaomaa

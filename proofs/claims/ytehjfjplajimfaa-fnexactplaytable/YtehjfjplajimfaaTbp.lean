/-
  Seeds, keys and places; new tables: the program's functions and the model's, call by call. Each contract says what it asks.
-/
import Derived.Test.YtehjfjplajimfaaTbm
import Derived.OwnWalk
namespace Go.Proofs.Ytehjfjplajimfaa
open Go.RowKit
set_option linter.unusedVariables false

theorem res_tb2 {fn : Func} {x u : Tmp} (hf : fn.results = #[.cell x 28, .tmp u]) (tmps : Array Value) (w : World) (g : Nat) (a b c d : Value) (fr : Nat × Nat) (hp : tmps.getD x undef = .pointer (some ⟨g, 0, none⟩))
    (hg : w.heap[g]? = some (.cells #[a, b, c, d] 28 fr)) : (results fn tmps).run Try.prog w = .ok (.tuple #[.agg #[a, b, c, d], tmps.getD u undef]) w := by
  have hp' : tmps[x]?.getD undef = .pointer (some ⟨g, 0, none⟩) := by simpa using hp
  simp [results, hf, hp', asAddr, run_loadVar_row w g _ _ _ fr _ hg Try.underlying28 rfl tbInfo]
theorem res_tb3 {fn : Func} {x u v : Tmp} (hf : fn.results = #[.cell x 28, .tmp u, .tmp v]) (tmps : Array Value) (w : World) (g : Nat) (a b c d : Value) (fr : Nat × Nat) (hp : tmps.getD x undef = .pointer (some ⟨g, 0, none⟩))
    (hg : w.heap[g]? = some (.cells #[a, b, c, d] 28 fr)) : (results fn tmps).run Try.prog w = .ok (.tuple #[.agg #[a, b, c, d], tmps.getD u undef, tmps.getD v undef]) w := by
  have hp' : tmps[x]?.getD undef = .pointer (some ⟨g, 0, none⟩) := by simpa using hp
  simp [results, hf, hp', asAddr, run_loadVar_row w g _ _ _ fr _ hg Try.underlying28 rfl tbInfo]

theorem bT {p : Prop} (h : p) : true = true ↔ p := ⟨fun _ => h, fun _ => rfl⟩
theorem bF {p : Prop} (h : ¬ p) : false = true ↔ p := ⟨fun e => by simp at e, fun e => absurd e h⟩
theorem nf {p : Prop} (h : false = true ↔ p) : ¬ p := fun e => by have := h.2 e; simp at this
set_option maxRecDepth 100000 in
theorem sl1In_calls (x a b : Int) (t : Bool) (w : World) (ht : t = true ↔ (a ≤ x ∧ x ≤ b)) :
    Calls Try.prog 68 #[.int .i64 x, .int .i64 a, .int .i64 b] w fun e w' => e = .returned (.bool t) ∧ w = w' := by
  by_cases h1 : a ≤ x
  · by_cases h2 : x ≤ b
    · obtain rfl : t = true := ht.2 ⟨h1, h2⟩
      clear ht
      go_enter Try.func68, Try.ntmps68
      go_wp2
      go_ret
      exact ⟨rfl, rfl⟩
    · obtain rfl : t = false := by cases t with | false => rfl | true => exact absurd (ht.1 rfl).2 h2
      clear ht
      go_enter Try.func68, Try.ntmps68
      go_wp2
      go_ret
      exact ⟨rfl, rfl⟩
  · obtain rfl : t = false := by cases t with | false => rfl | true => exact absurd (ht.1 rfl).1 h1
    clear ht
    have h1b : decide (a ≤ x) = false := decide_eq_false h1
    go_enter Try.func68, Try.ntmps68
    go_wp2
    go_ret
    exact ⟨rfl, rfl⟩
set_option maxRecDepth 100000 in
theorem sl12Seed_calls (x : Int) (t : Bool) (w : World) (ht : t = true ↔ sdOk x) :
    Calls Try.prog 55 #[.int .i64 x] w fun e w' => e = .returned (.bool t) ∧ w = w' := by
  have H := hide ht
  clear ht
  go_enter Try.func55, Try.ntmps55
  go_wp2_with (go_at_call 68; refine (sl1In_calls _ _ _ t _ H.out).mono ?_; rintro e w' ⟨rfl, rfl⟩)
  go_ret
  exact ⟨rfl, rfl⟩
set_option maxRecDepth 100000 in
theorem sl12Key_calls (x : Int) (t : Bool) (w : World) (ht : t = true ↔ kOk x) :
    Calls Try.prog 77 #[.int .i64 x] w fun e w' => e = .returned (.bool t) ∧ w = w' := by
  have H := hide ht
  clear ht
  go_enter Try.func77, Try.ntmps77
  go_wp2_with (go_at_call 68; refine (sl1In_calls _ _ _ t _ H.out).mono ?_; rintro e w' ⟨rfl, rfl⟩)
  go_ret
  exact ⟨rfl, rfl⟩
set_option maxRecDepth 100000 in
theorem isSeed_calls (x : Int) (t : Bool) (w : World) (ht : t = true ↔ sdOk x) :
    Calls Try.prog 96 #[.int .i64 x] w fun e w' => e = .returned (.bool t) ∧ w = w' := by
  by_cases h1 : 0 ≤ x
  · by_cases h2 : x ≤ 99
    · obtain rfl : t = true := ht.2 ⟨h1, h2⟩
      clear ht
      go_enter Try.func96, Try.ntmps96
      go_wp2
      go_ret
      exact ⟨rfl, rfl⟩
    · obtain rfl : t = false := by cases t with | false => rfl | true => exact absurd (ht.1 rfl).2 h2
      clear ht
      go_enter Try.func96, Try.ntmps96
      go_wp2
      go_ret
      exact ⟨rfl, rfl⟩
  · obtain rfl : t = false := by cases t with | false => rfl | true => exact absurd (ht.1 rfl).1 h1
    clear ht
    have h1b : decide (0 ≤ x) = false := decide_eq_false h1
    go_enter Try.func96, Try.ntmps96
    go_wp2
    go_ret
    exact ⟨rfl, rfl⟩
set_option maxRecDepth 100000 in
theorem isTableKey_calls (x : Int) (t : Bool) (w : World) (ht : t = true ↔ kOk x) :
    Calls Try.prog 79 #[.int .i64 x] w fun e w' => e = .returned (.bool t) ∧ w = w' := by
  by_cases h1 : 0 ≤ x
  · by_cases h2 : x ≤ 9999
    · obtain rfl : t = true := ht.2 ⟨h1, h2⟩
      clear ht
      go_enter Try.func79, Try.ntmps79
      go_wp2
      go_ret
      exact ⟨rfl, rfl⟩
    · obtain rfl : t = false := by cases t with | false => rfl | true => exact absurd (ht.1 rfl).2 h2
      clear ht
      go_enter Try.func79, Try.ntmps79
      go_wp2
      go_ret
      exact ⟨rfl, rfl⟩
  · obtain rfl : t = false := by cases t with | false => rfl | true => exact absurd (ht.1 rfl).1 h1
    clear ht
    have h1b : decide (0 ≤ x) = false := decide_eq_false h1
    go_enter Try.func79, Try.ntmps79
    go_wp2
    go_ret
    exact ⟨rfl, rfl⟩
set_option maxRecDepth 100000 in
theorem isSlotValue_calls (x : Int) (t : Bool) (w : World) (ht : t = true ↔ kOk x) :
    Calls Try.prog 104 #[.int .i64 x] w fun e w' => e = .returned (.bool t) ∧ w = w' := by
  by_cases h1 : 0 ≤ x
  · by_cases h2 : x ≤ 9999
    · obtain rfl : t = true := ht.2 ⟨h1, h2⟩
      clear ht
      go_enter Try.func104, Try.ntmps104
      go_wp2
      go_ret
      exact ⟨rfl, rfl⟩
    · obtain rfl : t = false := by cases t with | false => rfl | true => exact absurd (ht.1 rfl).2 h2
      clear ht
      go_enter Try.func104, Try.ntmps104
      go_wp2
      go_ret
      exact ⟨rfl, rfl⟩
  · obtain rfl : t = false := by cases t with | false => rfl | true => exact absurd (ht.1 rfl).1 h1
    clear ht
    have h1b : decide (0 ≤ x) = false := decide_eq_false h1
    go_enter Try.func104, Try.ntmps104
    go_wp2
    go_ret
    exact ⟨rfl, rfl⟩

theorem fs_tmod (s k : Int) (hs : sdOk s) (hk : kOk k) : (k + s).tmod 11 = fs s k := by
  have h1 := hs.1
  have h2 := hk.1
  rw [Int.tmod_eq_emod_of_nonneg (by omega)]
  rfl
theorem sn_tmod (s k : Int) (hs : sdOk s) (hk : kOk k) : (k.tdiv 11 + 3 * s).tmod 11 = sn s k := by
  have h1 := hs.1
  have h2 := hk.1
  rw [Int.tdiv_eq_ediv_of_nonneg h2, Int.tmod_eq_emod_of_nonneg (by omega)]
  rfl

set_option maxRecDepth 100000 in
theorem sl12First_calls (s k : Int) (w : World) (hs : sdOk s) (hk : kOk k) :
    Calls Try.prog 93 #[.int .i64 s, .int .i64 k] w fun e w' => e = .returned (.int .i64 (fs s k)) ∧ w = w' := by
  obtain ⟨s1, s2⟩ := hs
  obtain ⟨k1, k2⟩ := hk
  unfold fs
  go_enter Try.func93, Try.ntmps93
  go_wp2
  go_ret
  exact ⟨rfl, rfl⟩
set_option maxRecDepth 100000 in
theorem sl12First_any (s k : Int) (w : World) :
    Calls Try.prog 93 #[.int .i64 s, .int .i64 k] w fun e w' => (∃ x : Int, e = .returned (.int .i64 x)) ∧ w = w' := by
  go_enter Try.func93, Try.ntmps93
  go_wp2
  go_ret
  exact ⟨⟨_, rfl⟩, rfl⟩
set_option maxRecDepth 100000 in
theorem sl12Second_calls (s k : Int) (w : World) (hs : sdOk s) (hk : kOk k) :
    Calls Try.prog 94 #[.int .i64 s, .int .i64 k] w fun e w' => e = .returned (.int .i64 (sn s k)) ∧ w = w' := by
  obtain ⟨s1, s2⟩ := hs
  obtain ⟨k1, k2⟩ := hk
  unfold sn
  go_enter Try.func94, Try.ntmps94
  go_wp2
  go_ret
  exact ⟨rfl, rfl⟩
set_option maxRecDepth 100000 in
theorem sl12Second_any (s k : Int) (w : World) :
    Calls Try.prog 94 #[.int .i64 s, .int .i64 k] w fun e w' => (∃ x : Int, e = .returned (.int .i64 x)) ∧ w = w' := by
  go_enter Try.func94, Try.ntmps94
  go_wp2
  go_ret
  exact ⟨⟨_, rfl⟩, rfl⟩

def plF (t : Bool) (s k : Int) : Int := if t = true then fs s k else 0
def plS (t : Bool) (s k : Int) : Int := if t = true then sn s k else 0
set_option maxRecDepth 100000 in
theorem placesOf_calls (s k : Int) (t : Bool) (w : World) (ht : t = true ↔ (sdOk s ∧ kOk k)) :
    Calls Try.prog 123 #[.int .i64 s, .int .i64 k] w fun e w' => e = .returned (.tuple #[.int .i64 (plF t s k), .int .i64 (plS t s k), .bool t]) ∧ w = w' := by
  obtain ⟨a, ha⟩ := bol_ex (sdOk s)
  obtain ⟨b, hb⟩ := bol_ex (kOk k)
  cases a with
  | false =>
    obtain rfl : t = false := by cases t with | false => rfl | true => exact absurd (ha.2 (ht.1 rfl).1) (by simp)
    have HA := hide (nf ha)
    clear ha hb ht
    go_enter Try.func123, Try.ntmps123
    go_wp2_with (go_at_call 96; refine (isSeed_calls _ false _ (bF HA.out)).mono ?_; rintro e w' ⟨rfl, rfl⟩)
    go_ret3
    exact ⟨rfl, rfl⟩
  | true =>
    cases b with
    | false =>
      obtain rfl : t = false := by cases t with | false => rfl | true => exact absurd (hb.2 (ht.1 rfl).2) (by simp)
      have HA := hide (ha.1 rfl)
      have HB := hide (nf hb)
      clear ha hb ht
      go_enter Try.func123, Try.ntmps123
      go_wp2_with (first | (go_at_call 96; refine (isSeed_calls _ true _ (bT HA.out)).mono ?_; rintro e w' ⟨rfl, rfl⟩) | (go_at_call 79; refine (isTableKey_calls _ false _ (bF HB.out)).mono ?_; rintro e w' ⟨rfl, rfl⟩))
      go_ret3
      exact ⟨rfl, rfl⟩
    | true =>
      obtain rfl : t = true := ht.2 ⟨ha.1 rfl, hb.1 rfl⟩
      have HA := hide (ha.1 rfl)
      have HB := hide (hb.1 rfl)
      obtain ⟨s1, s2⟩ := ha.1 rfl
      obtain ⟨k1, k2⟩ := hb.1 rfl
      clear ha hb ht
      unfold plF plS fs sn
      go_enter Try.func123, Try.ntmps123
      go_wp2_with (first | (go_at_call 96; refine (isSeed_calls _ true _ (bT HA.out)).mono ?_; rintro e w' ⟨rfl, rfl⟩) | (go_at_call 79; refine (isTableKey_calls _ true _ (bT HB.out)).mono ?_; rintro e w' ⟨rfl, rfl⟩))
      go_ret3
      exact ⟨rfl, rfl⟩

theorem madeZ (n : Nat) : (madeCells (Value.agg #[.bool false, .int .i64 0, .int .i64 0]).cells (n * 3)).toList = slC (List.replicate n sl0) := by
  refine List.ext_getElem? fun j => ?_
  have hlen := slC_len (List.replicate n sl0)
  rw [List.length_replicate] at hlen
  by_cases hj : j < n * 3
  · have e2 : (Value.agg #[.bool false, .int .i64 0, .int .i64 0]).cells.size = 3 := rfl
    rw [Array.getElem?_toList]
    simp only [madeCells, Array.getElem?_map, e2, Array.getElem?_range, if_pos hj, Option.map_some]
    have h3 : j % 3 = 0 ∨ j % 3 = 1 ∨ j % 3 = 2 := by omega
    rcases h3 with h0 | h0 | h0
    · obtain ⟨i, rfl⟩ : ∃ i, j = i * 3 := ⟨j / 3, by omega⟩
      rw [slC_0 _ i (by simp; omega), h0]
      simp [List.getD_eq_getElem?_getD, show i < n from by omega]
      rfl
    · obtain ⟨i, rfl⟩ : ∃ i, j = i * 3 + 1 := ⟨j / 3, by omega⟩
      rw [slC_1 _ i (by simp; omega), h0]
      simp [List.getD_eq_getElem?_getD, show i < n from by omega]
      rfl
    · obtain ⟨i, rfl⟩ : ∃ i, j = i * 3 + 2 := ⟨j / 3, by omega⟩
      rw [slC_2 _ i (by simp; omega), h0]
      simp [List.getD_eq_getElem?_getD, show i < n from by omega]
      rfl
  · rw [List.getElem?_eq_none (by simp [madeCells]; omega), List.getElem?_eq_none (by omega)]
/-- Eleven slots that are not Used, as cells. -/
def slZ : Array Value := (slC (List.replicate 11 sl0)).toArray
theorem mk_sls (W : World) : (Instr.makeSlice 26 (.int .i64 11) (.int .i64 11)).run Try.prog W = .ok (.slice (some ⟨W.heap.size, 0, none⟩) 11 11) (W.alloc (.cells slZ 81)) := by
  obtain ⟨i0, hi, hz0, hz1, hz2⟩ := info_parts infoSl
  have h2 := run_make (P := Try.prog) W 26 81 i0 (.agg #[.bool false, .int .i64 0, .int .i64 0]) Try.underlying26 hi hz0 .i64 .i64 11 11 (by omega) (by omega) (by rw [hz2]; decide) (by omega)
  have e : madeCells (Value.agg #[.bool false, .int .i64 0, .int .i64 0]).cells ((11 : Int).toNat * i0.size) = slZ := by
    rw [hz1]
    apply Array.ext'
    exact madeZ 11
  rw [e] at h2
  simpa using h2
theorem sls_box {w : World} {g lo : Nat} (h : BoxAt w g slZ 81) (hl : lo ≤ g) : OwnS w lo (.slice (some ⟨g, 0, none⟩) 11 11) (List.replicate 11 sl0) := by
  refine ⟨rfl, .inr ⟨g, 11, _, rfl, hl, h, by simp, by unfold maxLen; omega, by rfl, by rfl⟩⟩
theorem new_tab {W : World} {lo i j : Nat} (hp : W.heap[i]? = some (.cells slZ 81 (0, 0))) (hh : W.heap[j]? = some (.cells slZ 81 (0, 0))) (hne : i ≠ j) (l1 : lo ≤ i) (l2 : lo ≤ j) :
    TabV W lo W.heap.size (.slice (some ⟨i, 0, none⟩) 11 11) (.slice (some ⟨j, 0, none⟩) 11 11) (List.replicate 11 sl0) (List.replicate 11 sl0) := by
  have o1 := sls_box (lo := lo) hp l1
  have o2 := sls_box (lo := lo) hh l2
  exact ⟨o1, o2, o1.top, o2.top, .inr (by simpa [Value.ownBlock] using hne)⟩
section
variable (w : World) (o0 o1 o2 : Obj)
theorem newT_2 : (((w.alloc o0).alloc o1).alloc o2).drew.heap[w.heap.size + 1 + 1]? = some o2 := by
  show (((w.alloc o0).alloc o1).alloc o2).heap[_]? = _
  have := heap_alloc_new ((w.alloc o0).alloc o1) o2
  simpa only [World.size_alloc] using this
theorem newT_1 : (((w.alloc o0).alloc o1).alloc o2).drew.heap[w.heap.size + 1]? = some o1 := by
  show (((w.alloc o0).alloc o1).alloc o2).heap[_]? = _
  rw [Below.heap_alloc _ _ _ (by simp)]
  have := heap_alloc_new (w.alloc o0) o1
  simpa only [World.size_alloc] using this
theorem newT_0 : (((w.alloc o0).alloc o1).alloc o2).drew.heap[w.heap.size]? = some o0 := by
  show (((w.alloc o0).alloc o1).alloc o2).heap[_]? = _
  rw [Below.heap_alloc _ _ _ (by simp <;> omega), Below.heap_alloc _ _ _ (by simp)]
  exact heap_alloc_new w o0
theorem newT_below : Below w.heap.size w (((w.alloc o0).alloc o1).alloc o2).drew :=
  ((((Below.refl _ w).alloc (Nat.le_refl _) o0).alloc (by simp) o1).alloc (by simp <;> omega) o2).drew
end
def rowX (t : Bool) : List Sl := if t = true then List.replicate 11 sl0 else []
def intX (t : Bool) (x : Int) : Int := if t = true then x else 0

set_option maxRecDepth 100000 in
set_option maxHeartbeats 800000 in
theorem sl12New_calls (s : Int) (w : World) :
    Calls Try.prog 56 #[.int .i64 s] w fun e w' => ∃ l r, e = .returned (.agg #[.int .i64 s, l, r, .int .i64 0]) ∧ TabV w' w.heap.size w'.heap.size l r (List.replicate 11 sl0) (List.replicate 11 sl0) ∧ Below w.heap.size w w' := by
  have hm1 := mk_sls
  go_enter Try.func56, Try.ntmps56
  go_wp2
  go_region
  all_goals
    go_wp2
    (try simp only [Exit.inBlock, Exit.then])
    refine bodyPost_ret (res_tb rfl _ _ w.heap.size _ _ _ _ (0, 0) rfl (newT_0 w _ _ _)) rfl ⟨_, _, rfl, new_tab (by first | exact newT_1 w _ _ _ | exact newT_2 w _ _ _) (by first | exact newT_1 w _ _ _ | exact newT_2 w _ _ _) (by omega) (by omega) (by omega), newT_below w _ _ _⟩
set_option maxRecDepth 100000 in
set_option maxHeartbeats 800000 in
theorem newTable_calls (s : Int) (t : Bool) (w : World) (ht : t = true ↔ sdOk s) :
    Calls Try.prog 61 #[.int .i64 s] w fun e w' => ∃ l r, e = .returned (.tuple #[.agg #[.int .i64 (intX t s), l, r, .int .i64 0], .bool t]) ∧ TabV w' w.heap.size w'.heap.size l r (rowX t) (rowX t) ∧ Below w.heap.size w w' := by
  have hm1 := mk_sls
  cases t with
  | false =>
    have H := hide (nf ht)
    clear hm1 ht
    have X := hide (BoxAt.new w nilT 28)
    have B := hide (below_box w (.cells nilT 28))
    go_enter Try.func61, Try.ntmps61
    go_wp2_with (go_at_call 96; refine (isSeed_calls _ false _ (bF H.out)).mono ?_; rintro e w' ⟨rfl, rfl⟩)
    exact bodyPost_ret (res_tb2 rfl _ _ w.heap.size _ _ _ _ (0, 0) rfl X.out) rfl ⟨_, _, rfl, TabV.nil _ _ _, B.out⟩
  | true =>
    have H := hide (ht.1 rfl)
    clear ht
    go_enter Try.func61, Try.ntmps61
    go_wp2_with fail
    refine (isSeed_calls _ true _ (bT H.out)).mono ?_
    rintro e w' ⟨rfl, rfl⟩
    go_wp2
    go_region
    all_goals
      go_wp2
      (try simp only [Exit.inBlock, Exit.then])
      refine bodyPost_ret (res_tb2 rfl _ _ w.heap.size _ _ _ _ (0, 0) rfl (newT_0 w _ _ _)) rfl ⟨_, _, rfl, new_tab (by first | exact newT_1 w _ _ _ | exact newT_2 w _ _ _) (by first | exact newT_1 w _ _ _ | exact newT_2 w _ _ _) (by omega) (by omega) (by omega), newT_below w _ _ _⟩
end Go.Proofs.Ytehjfjplajimfaa

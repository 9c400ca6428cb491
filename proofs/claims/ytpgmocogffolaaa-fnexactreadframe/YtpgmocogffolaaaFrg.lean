/-
  Good frames: the program's function and its model's, call by call, and a frame handed over. No condition.
-/
import Derived.Test.YtpgmocogffolaaaFrL
namespace Go.Proofs.Ytpgmocogffolaaa
open Go.RowKit

theorem ret_bool {a b : Bool} (h : a = b) : Ending.returned (.bool a) = .returned (.bool b) := by rw [h]
theorem below_box (w : World) (o : Obj) : Below w.heap.size w (w.alloc o) := (Below.refl _ _).alloc (Nat.le_refl _) o

theorem frInfo : (Try.prog.info? 69).map (·.size) = some 4 := by kernel_rfl
/-- A function whose result is a frame that lies in a cell. -/
theorem res_frame {fn : Func} {p : Tmp} (h : fn.results = #[.cell p 69]) (tmps : Array Value) (w : World) (g : Nat) (K A E : Int) (b : ByteArray) (fr : Nat × Nat) (hp : tmps.getD p undef = .pointer (some ⟨g, 0, none⟩))
    (hg : w.heap[g]? = some (.cells #[.int .i64 K, .int .i64 A, .int .i64 E, .string b] 69 fr)) : (results fn tmps).run Try.prog w = .ok (.agg #[.int .i64 K, .int .i64 A, .int .i64 E, .string b]) w :=
  results_cell_row h tmps w g _ _ fr _ hp hg Try.underlying69 rfl frInfo
theorem res_frame2 {fn : Func} {p u : Tmp} (h : fn.results = #[.cell p 69, .tmp u]) (tmps : Array Value) (w : World) (g : Nat) (K A E : Int) (b : ByteArray) (fr : Nat × Nat) (hp : tmps.getD p undef = .pointer (some ⟨g, 0, none⟩))
    (hg : w.heap[g]? = some (.cells #[.int .i64 K, .int .i64 A, .int .i64 E, .string b] 69 fr)) : (results fn tmps).run Try.prog w = .ok (.tuple #[.agg #[.int .i64 K, .int .i64 A, .int .i64 E, .string b], tmps.getD u undef]) w := by
  have hp' : tmps[p]?.getD undef = .pointer (some ⟨g, 0, none⟩) := by simpa using hp
  simp [results, h, hp', asAddr, run_loadVar_row w g _ _ _ fr _ hg Try.underlying69 rfl frInfo]
theorem res_frame3 {fn : Func} {p u v : Tmp} (h : fn.results = #[.cell p 69, .tmp u, .tmp v]) (tmps : Array Value) (w : World) (g : Nat) (K A E : Int) (b : ByteArray) (fr : Nat × Nat) (hp : tmps.getD p undef = .pointer (some ⟨g, 0, none⟩))
    (hg : w.heap[g]? = some (.cells #[.int .i64 K, .int .i64 A, .int .i64 E, .string b] 69 fr)) : (results fn tmps).run Try.prog w = .ok (.tuple #[.agg #[.int .i64 K, .int .i64 A, .int .i64 E, .string b], tmps.getD u undef, tmps.getD v undef]) w := by
  have hp' : tmps[p]?.getD undef = .pointer (some ⟨g, 0, none⟩) := by simpa using hp
  simp [results, h, hp', asAddr, run_loadVar_row w g _ _ _ fr _ hg Try.underlying69 rfl frInfo]

set_option maxRecDepth 100000 in
theorem isEpoch_calls (e : Int) (w : World) :
    Calls Try.prog 93 #[.int .i64 e] w fun x w' => x = .returned (.bool (decide (0 ≤ e ∧ e ≤ 60000))) ∧ w = w' := by
  go_enter Try.func93, Try.ntmps93
  go_wp2
  all_goals
    go_ret
    refine ⟨ret_bool ?_, rfl⟩
    simp
    try omega

set_option maxRecDepth 100000 in
set_option maxHeartbeats 800000 in
theorem goodFrame_calls (K A E : Int) (b : ByteArray) (w : World) (hb : b.size ≤ maxLen) :
    Calls Try.prog 47 #[.agg #[.int .i64 K, .int .i64 A, .int .i64 E, .string b]] w fun e w' => e = .returned (.bool (goodD K A E b.size)) ∧ Below w.heap.size w w' := by
  unfold maxLen at hb
  go_enter Try.func47, Try.ntmps47
  go_wp2_with (go_at_call 93; refine (isEpoch_calls E _).mono ?_; rintro x w1 ⟨rfl, rfl⟩; rcases hE : decide (0 ≤ E ∧ E ≤ 60000) with _ | _)
  all_goals
    go_ret
    refine ⟨ret_bool ?_, below_box _ _⟩
    first
      | (symm; exact goodD_no (by unfold goodF; omega))
      | (symm; exact goodD_no (by unfold goodF; intro q; have := of_decide_eq_false hE; omega))
      | (have hE' := of_decide_eq_true hE
         by_cases h16 : b.size ≤ 16
         · rw [goodD_yes (by unfold goodF; omega)]; simp; omega
         · rw [goodD_no (by unfold goodF; omega)]; simp; omega)

set_option maxRecDepth 100000 in
set_option maxHeartbeats 800000 in
theorem sGoodFrame_calls (K A E : Int) (b : ByteArray) (w : World) (hb : b.size ≤ maxLen) :
    Calls Try.prog 45 #[.agg #[.int .i64 K, .int .i64 A, .int .i64 E, .string b]] w fun e w' => e = .returned (.bool (goodD K A E b.size)) ∧ Below w.heap.size w w' := by
  unfold maxLen at hb
  by_cases hK : 1 ≤ K ∧ K ≤ 255
  case neg =>
    have e0 : goodD K A E b.size = false := goodD_no (by unfold goodF; omega)
    rw [e0]
    clear e0
    go_enter Try.func45, Try.ntmps45
    go_wp2_with fail
    refine (l1In_no _ _ _ _ (by omega)).mono ?_
    rintro e w1 ⟨rfl, rfl⟩
    go_wp2
    go_ret
    exact ⟨rfl, below_box _ _⟩
  by_cases hA : 0 ≤ A ∧ A ≤ 60000
  case neg =>
    have e0 : goodD K A E b.size = false := goodD_no (by unfold goodF; omega)
    rw [e0]
    clear e0
    go_enter Try.func45, Try.ntmps45
    go_wp2_with fail
    refine (l1In_yes _ _ _ _ hK.1 hK.2).mono ?_
    rintro e w1 ⟨rfl, rfl⟩
    go_wp2_with fail
    refine (l1In_no _ _ _ _ (by omega)).mono ?_
    rintro e w1 ⟨rfl, rfl⟩
    go_wp2
    go_ret
    exact ⟨rfl, below_box _ _⟩
  by_cases hE : 0 ≤ E ∧ E ≤ 60000
  case neg =>
    have e0 : goodD K A E b.size = false := goodD_no (by unfold goodF; omega)
    rw [e0]
    clear e0
    go_enter Try.func45, Try.ntmps45
    go_wp2_with fail
    refine (l1In_yes _ _ _ _ hK.1 hK.2).mono ?_
    rintro e w1 ⟨rfl, rfl⟩
    go_wp2_with fail
    refine (l1In_yes _ _ _ _ hA.1 hA.2).mono ?_
    rintro e w1 ⟨rfl, rfl⟩
    go_wp2_with fail
    refine (l1In_no _ _ _ _ (by omega)).mono ?_
    rintro e w1 ⟨rfl, rfl⟩
    go_wp2
    go_ret
    exact ⟨rfl, below_box _ _⟩
  go_enter Try.func45, Try.ntmps45
  go_wp2_with fail
  refine (l1In_yes _ _ _ _ hK.1 hK.2).mono ?_
  rintro e w1 ⟨rfl, rfl⟩
  go_wp2_with fail
  refine (l1In_yes _ _ _ _ hA.1 hA.2).mono ?_
  rintro e w1 ⟨rfl, rfl⟩
  go_wp2_with fail
  refine (l1In_yes _ _ _ _ hE.1 hE.2).mono ?_
  rintro e w1 ⟨rfl, rfl⟩
  go_wp2
  all_goals
    go_ret
    refine ⟨ret_bool ?_, below_box _ _⟩
    first
      | (symm; exact goodD_no (by unfold goodF; omega))
      | (by_cases h16 : b.size ≤ 16
         · rw [goodD_yes (by unfold goodF; omega)]; simp; omega
         · rw [goodD_no (by unfold goodF; omega)]; simp; omega)

set_option maxRecDepth 100000 in
set_option maxHeartbeats 800000 in
theorem toFrame_calls (K A E : Int) (b : ByteArray) (w : World) :
    Calls Try.prog 46 #[.agg #[.int .i64 K, .int .i64 A, .int .i64 E, .string b]] w fun e w' => e = .returned (.agg #[.int .i64 K, .int .i64 A, .int .i64 E, .string b]) ∧ Below w.heap.size w w' := by
  go_enter Try.func46, Try.ntmps46
  go_wp2
  (try simp only [Exit.inBlock, Exit.then])
  refine bodyPost_ret (res_frame rfl _ _ (w.heap.size + 1) K A E b (0, 0) rfl (by
    rw [Below.heap_alloc _ _ _ (by simp)]
    exact heap_alloc2_new _ _ _)) rfl ⟨rfl, (below_box _ _).trans (((below_box _ _).mono (by simp)).trans ((below_box _ _).mono (by simp; omega)))⟩

set_option maxRecDepth 100000 in
set_option maxHeartbeats 800000 in
theorem szFrame_calls (K A E : Int) (b : ByteArray) (w : World) (hb : b.size ≤ maxLen) :
    Calls Try.prog 44 #[.agg #[.int .i64 K, .int .i64 A, .int .i64 E, .string b], .int .i64 1048576] w fun e w' => e = .returned (.int .i64 (if b.size ≤ 1048576 then 1048576 - (b.size : Int) else -1)) ∧ Below w.heap.size w w' := by
  unfold maxLen at hb
  by_cases h : b.size ≤ 1048576
  · rw [if_pos h]
    go_enter Try.func44, Try.ntmps44
    go_wp2
    go_ret
    exact ⟨rfl, below_box _ _⟩
  · rw [if_neg h]
    go_enter Try.func44, Try.ntmps44
    go_wp2
    go_ret
    exact ⟨rfl, below_box _ _⟩

set_option maxRecDepth 100000 in
set_option maxHeartbeats 800000 in
theorem eqFrame_calls (K A E : Int) (b : ByteArray) (w : World) :
    Calls Try.prog 52 #[.agg #[.int .i64 K, .int .i64 A, .int .i64 E, .string b], .agg #[.int .i64 K, .int .i64 A, .int .i64 E, .string b]] w fun e w' => e = .returned (.bool true) ∧ Below w.heap.size w w' := by
  go_enter Try.func52, Try.ntmps52
  go_wp2
  go_ret
  exact ⟨rfl, (below_box _ _).trans ((below_box _ _).mono (by simp))⟩
end Go.Proofs.Ytpgmocogffolaaa

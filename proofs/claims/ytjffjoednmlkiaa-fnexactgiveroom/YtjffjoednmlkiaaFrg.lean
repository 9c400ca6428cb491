/-
  Good frames: the program's function and its model's, call by call, and a frame handed over. No condition.
-/
import Derived.Test.YtjffjoednmlkiaaFrL
namespace Go.Proofs.Ytjffjoednmlkiaa
open Go.RowKit

theorem ret_bool {a b : Bool} (h : a = b) : Ending.returned (.bool a) = .returned (.bool b) := by rw [h]
theorem below_box (w : World) (o : Obj) : Below w.heap.size w (w.alloc o) := (Below.refl _ _).alloc (Nat.le_refl _) o

theorem frInfo : (Try.prog.info? 116).map (·.size) = some 4 := by kernel_rfl
/-- A function whose result is a frame that lies in a cell. -/
theorem res_frame {fn : Func} {p : Tmp} (h : fn.results = #[.cell p 116]) (tmps : Array Value) (w : World) (g : Nat) (K A E : Int) (b : ByteArray) (fr : Nat × Nat) (hp : tmps.getD p undef = .pointer (some ⟨g, 0, none⟩))
    (hg : w.heap[g]? = some (.cells #[.int .i64 K, .int .i64 A, .int .i64 E, .string b] 116 fr)) : (results fn tmps).run Try.prog w = .ok (.agg #[.int .i64 K, .int .i64 A, .int .i64 E, .string b]) w :=
  results_cell_row h tmps w g _ _ fr _ hp hg Try.underlying116 rfl frInfo
theorem res_frame2 {fn : Func} {p u : Tmp} (h : fn.results = #[.cell p 116, .tmp u]) (tmps : Array Value) (w : World) (g : Nat) (K A E : Int) (b : ByteArray) (fr : Nat × Nat) (hp : tmps.getD p undef = .pointer (some ⟨g, 0, none⟩))
    (hg : w.heap[g]? = some (.cells #[.int .i64 K, .int .i64 A, .int .i64 E, .string b] 116 fr)) : (results fn tmps).run Try.prog w = .ok (.tuple #[.agg #[.int .i64 K, .int .i64 A, .int .i64 E, .string b], tmps.getD u undef]) w := by
  have hp' : tmps[p]?.getD undef = .pointer (some ⟨g, 0, none⟩) := by simpa using hp
  simp [results, h, hp', asAddr, run_loadVar_row w g _ _ _ fr _ hg Try.underlying116 rfl frInfo]
theorem res_frame3 {fn : Func} {p u v : Tmp} (h : fn.results = #[.cell p 116, .tmp u, .tmp v]) (tmps : Array Value) (w : World) (g : Nat) (K A E : Int) (b : ByteArray) (fr : Nat × Nat) (hp : tmps.getD p undef = .pointer (some ⟨g, 0, none⟩))
    (hg : w.heap[g]? = some (.cells #[.int .i64 K, .int .i64 A, .int .i64 E, .string b] 116 fr)) : (results fn tmps).run Try.prog w = .ok (.tuple #[.agg #[.int .i64 K, .int .i64 A, .int .i64 E, .string b], tmps.getD u undef, tmps.getD v undef]) w := by
  have hp' : tmps[p]?.getD undef = .pointer (some ⟨g, 0, none⟩) := by simpa using hp
  simp [results, h, hp', asAddr, run_loadVar_row w g _ _ _ fr _ hg Try.underlying116 rfl frInfo]

set_option maxRecDepth 100000 in
set_option maxHeartbeats 800000 in
theorem goodFrame_calls (K A E : Int) (b : ByteArray) (w : World) (hb : b.size ≤ maxLen) :
    Calls Try.prog 180 #[.agg #[.int .i64 K, .int .i64 A, .int .i64 E, .string b]] w fun e w' => e = .returned (.bool (goodD K A E b.size)) ∧ Below w.heap.size w w' := by
  unfold maxLen at hb
  go_enter Try.func180, Try.ntmps180
  go_wp2
  all_goals
    go_ret
    refine ⟨ret_bool ?_, below_box _ _⟩
    first
      | (symm; exact goodD_no (by unfold goodF; omega))
      | (by_cases h16 : b.size ≤ 16
         · rw [goodD_yes (by unfold goodF; omega)]; simp; omega
         · rw [goodD_no (by unfold goodF; omega)]; simp; omega)

set_option maxRecDepth 100000 in
set_option maxHeartbeats 800000 in
theorem sGoodFrame_calls (K A E : Int) (b : ByteArray) (w : World) (hb : b.size ≤ maxLen) :
    Calls Try.prog 182 #[.agg #[.int .i64 K, .int .i64 A, .int .i64 E, .string b]] w fun e w' => e = .returned (.bool (goodD K A E b.size)) ∧ Below w.heap.size w w' := by
  unfold maxLen at hb
  by_cases hK : 1 ≤ K ∧ K ≤ 255
  case neg =>
    have e0 : goodD K A E b.size = false := goodD_no (by unfold goodF; omega)
    rw [e0]
    clear e0
    go_enter Try.func182, Try.ntmps182
    go_wp2_with fail
    refine (l1In_no _ _ _ _ (by omega)).mono ?_
    rintro e w1 ⟨rfl, rfl⟩
    go_wp2
    go_ret
    exact ⟨rfl, below_box _ _⟩
  by_cases hA : 0 ≤ A ∧ A ≤ 60000
  case neg =>
    have e0 : goodD K A E b.size = false := goodD_no (by unfold goodF; omega)
    rw [e0]
    clear e0
    go_enter Try.func182, Try.ntmps182
    go_wp2_with fail
    refine (l1In_yes _ _ _ _ hK.1 hK.2).mono ?_
    rintro e w1 ⟨rfl, rfl⟩
    go_wp2_with fail
    refine (l1In_no _ _ _ _ (by omega)).mono ?_
    rintro e w1 ⟨rfl, rfl⟩
    go_wp2
    go_ret
    exact ⟨rfl, below_box _ _⟩
  by_cases hE : 0 ≤ E ∧ E ≤ 60000
  case neg =>
    have e0 : goodD K A E b.size = false := goodD_no (by unfold goodF; omega)
    rw [e0]
    clear e0
    go_enter Try.func182, Try.ntmps182
    go_wp2_with fail
    refine (l1In_yes _ _ _ _ hK.1 hK.2).mono ?_
    rintro e w1 ⟨rfl, rfl⟩
    go_wp2_with fail
    refine (l1In_yes _ _ _ _ hA.1 hA.2).mono ?_
    rintro e w1 ⟨rfl, rfl⟩
    go_wp2_with fail
    refine (l1In_no _ _ _ _ (by omega)).mono ?_
    rintro e w1 ⟨rfl, rfl⟩
    go_wp2
    go_ret
    exact ⟨rfl, below_box _ _⟩
  go_enter Try.func182, Try.ntmps182
  go_wp2_with fail
  refine (l1In_yes _ _ _ _ hK.1 hK.2).mono ?_
  rintro e w1 ⟨rfl, rfl⟩
  go_wp2_with fail
  refine (l1In_yes _ _ _ _ hA.1 hA.2).mono ?_
  rintro e w1 ⟨rfl, rfl⟩
  go_wp2_with fail
  refine (l1In_yes _ _ _ _ hE.1 hE.2).mono ?_
  rintro e w1 ⟨rfl, rfl⟩
  go_wp2
  all_goals
    go_ret
    refine ⟨ret_bool ?_, below_box _ _⟩
    first
      | (symm; exact goodD_no (by unfold goodF; omega))
      | (by_cases h16 : b.size ≤ 16
         · rw [goodD_yes (by unfold goodF; omega)]; simp; omega
         · rw [goodD_no (by unfold goodF; omega)]; simp; omega)

end Go.Proofs.Ytjffjoednmlkiaa

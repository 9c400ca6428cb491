/-
  A new disk: the program's NewDisk and its model's, call by call. Each contract says what it asks.
-/
import Derived.Test.YtnjpkfgljabdaaaDge
namespace Go.Proofs.Ytnjpkfgljabdaaa
open Go.RowKit
set_option linter.unusedVariables false

/-- n empty texts, and n times false, as cells. -/
def txC (n : Nat) : Array Value := ((List.replicate n (⟨#[]⟩ : ByteArray)).map Value.string).toArray
def boC (n : Nat) : Array Value := ((List.replicate n false).map Value.bool).toArray
theorem mk_txt (n : Nat) (h : n ≤ 1048576) (W : World) : (Instr.makeSlice 22 (.int .i64 (n : Int)) (.int .i64 (n : Int))).run Try.prog W = .ok (.slice (some ⟨W.heap.size, 0, none⟩) n n) (W.alloc (.cells (txC n) 9)) := by
  obtain ⟨i0, hi, hz0, hz1, hz2⟩ := info_parts infoStr
  have h2 := run_make (P := Try.prog) W 22 9 i0 (.string ⟨#[]⟩) Try.underlying22 hi hz0 .i64 .i64 (n : Int) (n : Int) (by omega) (by omega) (by rw [hz2]; omega) (by omega)
  have e : madeCells (Value.string ⟨#[]⟩).cells ((n : Int).toNat * i0.size) = txC n := by
    rw [hz1, Nat.mul_one, Int.toNat_natCast]
    apply Array.ext'
    have := toList_madeCells_one (Value.string ⟨#[]⟩) n
    unfold txC
    rw [List.toList_toArray, List.map_replicate]
    exact this
  rw [e] at h2
  simpa using h2
theorem mk_bol (n : Nat) (h : n ≤ 1048576) (W : World) : (Instr.makeSlice 23 (.int .i64 (n : Int)) (.int .i64 (n : Int))).run Try.prog W = .ok (.slice (some ⟨W.heap.size, 0, none⟩) n n) (W.alloc (.cells (boC n) 4)) := by
  obtain ⟨i0, hi, hz0, hz1, hz2⟩ := info_parts infoBol
  have h2 := run_make (P := Try.prog) W 23 4 i0 (.bool false) Try.underlying23 hi hz0 .i64 .i64 (n : Int) (n : Int) (by omega) (by omega) (by rw [hz2]; omega) (by omega)
  have e : madeCells (Value.bool false).cells ((n : Int).toNat * i0.size) = boC n := by
    rw [hz1, Nat.mul_one, Int.toNat_natCast]
    apply Array.ext'
    have := toList_madeCells_one (Value.bool false) n
    unfold boC
    rw [List.toList_toArray, List.map_replicate]
    exact this
  rw [e] at h2
  simpa using h2
theorem txt_box {w : World} {g n lo : Nat} (h : BoxAt w g (txC n) 9) (hl : lo ≤ g) (hn : n ≤ 1048576) : OwnT w lo (.slice (some ⟨g, 0, none⟩) n n) (List.replicate n ⟨#[]⟩) := by
  refine ⟨by simp, .inr ⟨g, n, _, ?_, hl, h, by simp, by unfold maxLen; omega, by simp [txC], ?_⟩⟩
  · rw [List.length_replicate]
  · rw [List.take_of_length_le (by simp [txC])]
    rfl
theorem bol_box {w : World} {g n lo : Nat} (h : BoxAt w g (boC n) 4) (hl : lo ≤ g) (hn : n ≤ 1048576) : OwnZ w lo (.slice (some ⟨g, 0, none⟩) n n) (List.replicate n false) := by
  refine ⟨by simp, .inr ⟨g, n, _, ?_, hl, h, by simp, by unfold maxLen; omega, by simp [boC], ?_⟩⟩
  · rw [List.length_replicate]
  · rw [List.take_of_length_le (by simp [boC])]
    rfl

section
variable (w : World) (o0 o1 o2 o3 : Obj)
theorem new_size : ((((w.alloc o0).alloc o1).alloc o2).alloc o3).drew.heap.size = w.heap.size + 1 + 1 + 1 + 1 := by
  show ((((w.alloc o0).alloc o1).alloc o2).alloc o3).heap.size = _
  simp
theorem new_f3 : ((((w.alloc o0).alloc o1).alloc o2).alloc o3).drew.heap[w.heap.size + 1 + 1 + 1]? = some o3 := by
  show ((((w.alloc o0).alloc o1).alloc o2).alloc o3).heap[_]? = _
  have := heap_alloc_new (((w.alloc o0).alloc o1).alloc o2) o3
  simpa only [World.size_alloc] using this
theorem new_f2 : ((((w.alloc o0).alloc o1).alloc o2).alloc o3).drew.heap[w.heap.size + 1 + 1]? = some o2 := by
  show ((((w.alloc o0).alloc o1).alloc o2).alloc o3).heap[_]? = _
  rw [Below.heap_alloc _ _ _ (by simp)]
  have := heap_alloc_new ((w.alloc o0).alloc o1) o2
  simpa only [World.size_alloc] using this
theorem new_f1 : ((((w.alloc o0).alloc o1).alloc o2).alloc o3).drew.heap[w.heap.size + 1]? = some o1 := by
  show ((((w.alloc o0).alloc o1).alloc o2).alloc o3).heap[_]? = _
  rw [Below.heap_alloc _ _ _ (by simp <;> omega), Below.heap_alloc _ _ _ (by simp)]
  have := heap_alloc_new (w.alloc o0) o1
  simpa only [World.size_alloc] using this
theorem new_f0 : ((((w.alloc o0).alloc o1).alloc o2).alloc o3).drew.heap[w.heap.size]? = some o0 := by
  show ((((w.alloc o0).alloc o1).alloc o2).alloc o3).heap[_]? = _
  rw [Below.heap_alloc _ _ _ (by simp <;> omega), Below.heap_alloc _ _ _ (by simp <;> omega), Below.heap_alloc _ _ _ (by simp)]
  exact heap_alloc_new w o0
theorem new_below : Below w.heap.size w ((((w.alloc o0).alloc o1).alloc o2).alloc o3).drew :=
  (((((Below.refl _ w).alloc (Nat.le_refl _) o0).alloc (by simp) o1).alloc (by simp <;> omega) o2).alloc (by simp <;> omega) o3).drew
end
theorem new_dsk {W : World} {lo ip ih ib n : Nat} (hp : W.heap[ip]? = some (.cells (txC n) 9 (0, 0))) (hh : W.heap[ih]? = some (.cells (txC n) 9 (0, 0))) (hb : W.heap[ib]? = some (.cells (boC n) 4 (0, 0))) (hne : ip ≠ ih) (l1 : lo ≤ ip) (l2 : lo ≤ ih) (l3 : lo ≤ ib) (hn : n ≤ 24) :
    DskV W lo W.heap.size (.slice (some ⟨ip, 0, none⟩) n n) (.slice (some ⟨ih, 0, none⟩) n n) (.slice (some ⟨ib, 0, none⟩) n n) (List.replicate n ⟨#[]⟩) (List.replicate n ⟨#[]⟩) (List.replicate n false) := by
  have hz : ∀ s ∈ List.replicate n (⟨#[]⟩ : ByteArray), s.size ≤ maxLen := by
    intro s hs
    rw [List.eq_of_mem_replicate hs]
    exact Nat.zero_le _
  have op := txt_box (lo := lo) hp l1 (by omega)
  have oh := txt_box (lo := lo) hh l2 (by omega)
  have ob := bol_box (lo := lo) hb l3 (by omega)
  exact ⟨op, oh, ob, row_top op, row_top oh, row_top ob, .inr (by simpa [Value.ownBlock] using hne), hz, hz⟩

set_option maxRecDepth 100000 in
set_option maxHeartbeats 800000 in
theorem newDisk_yes (n : Nat) (w : World) (h1 : 1 ≤ n) (h2 : n ≤ 24) :
    Calls Try.prog 11 #[.int .i64 n] w fun e w' => ∃ p h b, e = .returned (.tuple #[.agg #[p, h, b], .bool true]) ∧ DskV w' w.heap.size w'.heap.size p h b (List.replicate n ⟨#[]⟩) (List.replicate n ⟨#[]⟩) (List.replicate n false) ∧ Below w.heap.size w w' := by
  have hm1 := mk_txt n (by omega)
  have hm2 := mk_bol n (by omega)
  go_enter Try.func11, Try.ntmps11
  go_wp2_with fail
  refine (isSectorCount_yes _ _ (by omega)).mono ?_
  rintro e w1 ⟨rfl, rfl⟩
  go_wp2
  go_region
  all_goals
    go_wp2
    (try simp only [Exit.inBlock, Exit.then])
    refine bodyPost_ret (res_dsk2 rfl _ _ w.heap.size _ _ _ (0, 0) rfl (new_f0 w _ _ _ _)) rfl ⟨_, _, _, rfl, new_dsk (by first | exact new_f1 w _ _ _ _ | exact new_f2 w _ _ _ _ | exact new_f3 w _ _ _ _) (by first | exact new_f1 w _ _ _ _ | exact new_f2 w _ _ _ _ | exact new_f3 w _ _ _ _) (by first | exact new_f1 w _ _ _ _ | exact new_f2 w _ _ _ _ | exact new_f3 w _ _ _ _) (by omega) (by omega) (by omega) (by omega) h2, new_below w _ _ _ _⟩
set_option maxRecDepth 100000 in
set_option maxHeartbeats 800000 in
theorem sNewDisk_yes (n : Nat) (w : World) (h1 : 1 ≤ n) (h2 : n ≤ 24) :
    Calls Try.prog 10 #[.int .i64 n] w fun e w' => ∃ p h b, e = .returned (.tuple #[.agg #[p, h, b], .bool true]) ∧ DskV w' w.heap.size w'.heap.size p h b (List.replicate n ⟨#[]⟩) (List.replicate n ⟨#[]⟩) (List.replicate n false) ∧ Below w.heap.size w w' := by
  have hm1 := mk_txt n (by omega)
  have hm2 := mk_bol n (by omega)
  go_enter Try.func10, Try.ntmps10
  go_wp2_with fail
  refine (l1In_yes _ _ _ _ (by omega) (by omega)).mono ?_
  rintro e w1 ⟨rfl, rfl⟩
  go_wp2
  go_region
  all_goals
    go_wp2
    (try simp only [Exit.inBlock, Exit.then])
    refine bodyPost_ret (res_dsk2 rfl _ _ w.heap.size _ _ _ (0, 0) rfl (new_f0 w _ _ _ _)) rfl ⟨_, _, _, rfl, new_dsk (by first | exact new_f1 w _ _ _ _ | exact new_f2 w _ _ _ _ | exact new_f3 w _ _ _ _) (by first | exact new_f1 w _ _ _ _ | exact new_f2 w _ _ _ _ | exact new_f3 w _ _ _ _) (by first | exact new_f1 w _ _ _ _ | exact new_f2 w _ _ _ _ | exact new_f3 w _ _ _ _) (by omega) (by omega) (by omega) (by omega) h2, new_below w _ _ _ _⟩
set_option maxRecDepth 100000 in
theorem newDisk_no (n : Int) (w : World) (h : ¬ (1 ≤ n ∧ n ≤ 24)) :
    Calls Try.prog 11 #[.int .i64 n] w fun e w' => e = .returned (.tuple #[.agg nil3, .bool false]) ∧ Below w.heap.size w w' := by
  go_enter Try.func11, Try.ntmps11
  go_wp2_with fail
  refine (isSectorCount_no _ _ h).mono ?_
  rintro e w1 ⟨rfl, rfl⟩
  go_wp2
  (try simp only [Exit.inBlock, Exit.then])
  exact bodyPost_ret (res_dsk2 rfl _ _ w.heap.size _ _ _ (0, 0) rfl (heap_alloc_new w _)) rfl ⟨rfl, below_box w _⟩
set_option maxRecDepth 100000 in
theorem sNewDisk_no (n : Int) (w : World) (h : ¬ (1 ≤ n ∧ n ≤ 24)) :
    Calls Try.prog 10 #[.int .i64 n] w fun e w' => e = .returned (.tuple #[.agg nil3, .bool false]) ∧ Below w.heap.size w w' := by
  go_enter Try.func10, Try.ntmps10
  go_wp2_with fail
  refine (l1In_no _ _ _ _ (by omega)).mono ?_
  rintro e w1 ⟨rfl, rfl⟩
  go_wp2
  (try simp only [Exit.inBlock, Exit.then])
  exact bodyPost_ret (res_dsk2 rfl _ _ w.heap.size _ _ _ (0, 0) rfl (heap_alloc_new w _)) rfl ⟨rfl, below_box w _⟩
/-- What NewDisk answers. -/
def ndT (n : Int) : List ByteArray := if 1 ≤ n ∧ n ≤ 24 then List.replicate n.toNat ⟨#[]⟩ else []
def ndZ (n : Int) : List Bool := if 1 ≤ n ∧ n ≤ 24 then List.replicate n.toNat false else []
def ndK (n : Int) : Bool := decide (1 ≤ n ∧ n ≤ 24)
theorem nd_len (n : Int) : SzD (ndT n) (ndT n) (ndZ n) := by
  unfold SzD ndT ndZ
  split <;> simp <;> omega
theorem newDisk_calls (n : Int) (w : World) :
    Calls Try.prog 11 #[.int .i64 n] w fun e w' => ∃ p h b, e = .returned (.tuple #[.agg #[p, h, b], .bool (ndK n)]) ∧ DskV w' w.heap.size w'.heap.size p h b (ndT n) (ndT n) (ndZ n) ∧ Below w.heap.size w w' := by
  by_cases h : 1 ≤ n ∧ n ≤ 24
  · obtain ⟨m, rfl⟩ : ∃ m : Nat, n = (m : Int) := ⟨n.toNat, by omega⟩
    have e1 : ndT (m : Int) = List.replicate m ⟨#[]⟩ := by unfold ndT; rw [if_pos h, Int.toNat_natCast]
    have e2 : ndZ (m : Int) = List.replicate m false := by unfold ndZ; rw [if_pos h, Int.toNat_natCast]
    have e3 : ndK (m : Int) = true := decide_eq_true h
    rw [e1, e2, e3]
    exact newDisk_yes m w (by omega) (by omega)
  · have e1 : ndT n = [] := if_neg h
    have e2 : ndZ n = [] := if_neg h
    have e3 : ndK n = false := decide_eq_false h
    rw [e1, e2, e3]
    exact (newDisk_no n w h).mono fun e w' ⟨he, hb⟩ => ⟨_, _, _, he, DskV.nil _ _ _, hb⟩
theorem sNewDisk_calls (n : Int) (w : World) :
    Calls Try.prog 10 #[.int .i64 n] w fun e w' => ∃ p h b, e = .returned (.tuple #[.agg #[p, h, b], .bool (ndK n)]) ∧ DskV w' w.heap.size w'.heap.size p h b (ndT n) (ndT n) (ndZ n) ∧ Below w.heap.size w w' := by
  by_cases h : 1 ≤ n ∧ n ≤ 24
  · obtain ⟨m, rfl⟩ : ∃ m : Nat, n = (m : Int) := ⟨n.toNat, by omega⟩
    have e1 : ndT (m : Int) = List.replicate m ⟨#[]⟩ := by unfold ndT; rw [if_pos h, Int.toNat_natCast]
    have e2 : ndZ (m : Int) = List.replicate m false := by unfold ndZ; rw [if_pos h, Int.toNat_natCast]
    have e3 : ndK (m : Int) = true := decide_eq_true h
    rw [e1, e2, e3]
    exact sNewDisk_yes m w (by omega) (by omega)
  · have e1 : ndT n = [] := if_neg h
    have e2 : ndZ n = [] := if_neg h
    have e3 : ndK n = false := decide_eq_false h
    rw [e1, e2, e3]
    exact (sNewDisk_no n w h).mono fun e w' ⟨he, hb⟩ => ⟨_, _, _, he, DskV.nil _ _ _, hb⟩
end Go.Proofs.Ytnjpkfgljabdaaa

/-
  New rooms, of both sides. No condition.
-/
import Derived.Test.YtjffjoednmlkiaaRmu
namespace Go.Proofs.Ytjffjoednmlkiaa
open Go.RowKit Go.Maps Go.MapKept Go.ChangeMaps
set_option linter.unusedVariables false

def newM : List (List Int) := [[], [], [], [], [], [0]]
theorem own_one (w : World) (x : Int) (c : Array Value) (hc : c = #[.int .i64 x]) : Own (w.alloc (.cells c 3)) w.heap.size (.slice (some ⟨w.heap.size, 0, none⟩) 1 1) [x] := by
  subst hc
  exact ⟨by simp, .inr ⟨w.heap.size, 1, _, rfl, Nat.le_refl _, heap_alloc_new w _, by simp, by unfold maxLen; omega, by simp, by simp⟩⟩

set_option maxRecDepth 100000 in
set_option maxHeartbeats 1600000 in
theorem sNewRooms_calls (w : World) :
    Calls Try.prog 67 #[] w fun e w' => ∃ f h, e = .returned (.agg #[f, h]) ∧ RomV w' w.heap.size w'.heap.size f h newM [] ∧ Below w.heap.size w w' := by
  have A0 := hide ((Hand.start w).box nilR 29)
  go_enter Try.func67, Try.ntmps67
  go_wp2_with (at_make; refine wpList_make_rows rfl _ _ rfl _ _ 6 rfl rfl rfl rfl (by omega) ?_)
  intro w1 mv g1
  have b1 : Below w.heap.size w w1 := A0.out.below.grown g1 A0.out.below.size (fun k h => by cases h)
  have X0 : BoxAt w1 w.heap.size nilR 29 := (A0.out.atBox 0 rfl).kept g1 (by simp)
  have gb := (World.ownsRow.lt mv.head (w.heap.size + 1) rfl).2
  have x1 := BoxAt.new w1 #[.slice (some ⟨w.heap.size + 1, 0, none⟩) 6 6, .slice none 0 0] 29
  have bb := below_box w1 (.cells #[.slice (some ⟨w.heap.size + 1, 0, none⟩) 6 6, .slice none 0 0] 29)
  have M2 := mv.below bb
  have X2 := X0.below bb
  have B2 := b1.trans (bb.mono b1.size)
  have sz2 : (w1.alloc (.cells #[.slice (some ⟨w.heap.size + 1, 0, none⟩) 6 6, .slice none 0 0] 29)).heap.size = w1.heap.size + 1 := by simp [World.size_alloc]
  have bb3 := below_box (w1.alloc (.cells #[.slice (some ⟨w.heap.size + 1, 0, none⟩) 6 6, .slice none 0 0] 29)) (.cells #[.int .i64 0] 3)
  have o3 := own_one (w1.alloc (.cells #[.slice (some ⟨w.heap.size + 1, 0, none⟩) 6 6, .slice none 0 0] 29)) 0 _ rfl
  have sz3 := bb3.size
  have L := M2.lay 5 (by decide) bb3 _ _ o3 (by omega) (by omega)
  have M3 := M2.below bb3
  have X3 := x1.below bb3
  have Y3 := X2.below bb3
  have B3 := B2.trans (bb3.mono B2.size)
  rw [sz2] at L
  have c3 : ((w1.alloc (.cells #[.slice (some ⟨w.heap.size + 1, 0, none⟩) 6 6, .slice none 0 0] 29)).alloc (.cells #[.int .i64 0] 3)).cell? ⟨w.heap.size + 1, 5, none⟩ = some nilRow := head_cell M3.head 5 (by omega)
  have f3 : ((w1.alloc (.cells #[.slice (some ⟨w.heap.size + 1, 0, none⟩) 6 6, .slice none 0 0] 29)).alloc (.cells #[.int .i64 0] 3)).frozen? ⟨w.heap.size + 1, 5, none⟩ = false := World.ownsRow.frozenAt M3.head 5
  have c2 := x1.c2.1
  have X4 := X3.kept L.2 (by simp; omega)
  have Y4 := Y3.kept L.2 (by simp)
  have d0 := X4.c2.1
  have d1 := X4.c2.2
  have e0 := Y4.c2.1
  have e1 := Y4.c2.2
  have q0 := Y4.frozen 0
  have q1 := Y4.frozen 1
  have B4 := B3.grown L.2 B3.size (fun k h => by cases h; omega)
  have g4 := grown_tr (grown_setCell (World.setCell ((w1.alloc (.cells #[.slice (some ⟨w.heap.size + 1, 0, none⟩) 6 6, .slice none 0 0] 29)).alloc (.cells #[.int .i64 0] 3)) ⟨w.heap.size + 1, 5, none⟩ (.slice (some ⟨w1.heap.size + 1, 0, none⟩) 1 1)) w.heap.size 0 (.slice (some ⟨w.heap.size + 1, 0, none⟩) 6 6)) (grown_setCell _ w.heap.size 1 (.slice none 0 0))
  have Z5 := hide ((Y4.set 0 (.slice (some ⟨w.heap.size + 1, 0, none⟩) 6 6)).set 1 (.slice none 0 0))
  have M5 : Hid (Mat _ _ _ _ newM) := Mat.keptBox ⟨_, L.1⟩ Y4 (by decide) (by decide) g4
  have G5 := hide (B4.grown g4 B4.size (fun j hj => by cases hj; exact Nat.le_refl _))
  have S5 := hide g4.size
  clear mv g1 b1 A0 x1 bb X0 gb M2 X2 B2 sz2 bb3 o3 sz3 L M3 X3 Y3 B3 X4 Y4 B4 g4
  go_wp2
  refine bodyPost_ret (res_rm rfl _ _ w.heap.size _ _ (0, 0) rfl Z5.out) rfl ⟨_, _, rfl, ?_, G5.out⟩
  exact ⟨M5.out.wider (by omega) S5.out, World.ownsRow_nil _ _ _ _, fun k hk => by simp [Value.ownBlock] at hk⟩

theorem none32_getD (p : Nat) : none32.getD p none = none := by
  unfold none32
  rw [List.getD_eq_getElem?_getD, List.getElem?_replicate]
  split <;> rfl
set_option maxRecDepth 100000 in
set_option maxHeartbeats 1600000 in
theorem newRooms_calls (w : World) :
    Calls Try.prog 71 #[] w fun e w' => ∃ f h, e = .returned (.agg #[f, h]) ∧ RomV w' w.heap.size w'.heap.size f h newM [] ∧ Below w.heap.size w w' := by
  have hmm := @run_makeMap Try.prog
  have m1 := MapAt.new (w.alloc (.cells nilR 29))
  have A0 := hide ((Hand.start w).box nilR 29)
  have bm := below_box (w.alloc (.cells nilR 29)) (.map #[] 0)
  obtain ⟨w2, hrun, hat, hg, hsz⟩ := m1.put 0 (by omega) 5 (wfI_small (by omega) (by omega))
  simp only [World.size_alloc] at hrun hat hg hsz
  rw [show ((0 : Nat) : Int) = 0 from rfl] at hrun
  have b2 : Below w.heap.size w w2 := ((A0.out.below.trans (bm.mono A0.out.below.size))).grown hg (by simp only [World.size_alloc]; omega) (fun k h => by cases h; omega)
  have X2 : BoxAt w2 w.heap.size nilR 29 := ((A0.out.atBox 0 rfl).below bm).kept hg (by simp)
  have m3 := MapAt.new w2
  have bm3 := below_box w2 (.map #[] 0)
  have M1 : Hid (MapAt (w2.alloc (.map #[] 0)) (w.heap.size + 1) (none32.set 0 (some 5))) := hat.below bm3
  have M2 := hide m3
  have X3 := hide (X2.below bm3)
  have B3 := hide (b2.trans (bm3.mono b2.size))
  have RF := hide (roomsFrom_calls (w.heap.size + 1) w2.heap.size (none32.set 0 (some 5)) none32 _ M1.out M2.out (fun p x h => by
    rw [getD_set _ _ _ _ _ (by decide)] at h
    split at h
    · cases h; omega
    · rw [none32_getD] at h; cases h))
  have k1 : rowsK (none32.set 0 (some 5)) (keysG (none32.set 0 (some 5))) = newM := by decide
  have k2 : heldK none32 (keysG none32) = [] := by decide
  rw [k1, k2] at RF
  clear k1 k2
  clear m1 A0 bm hat hg hsz b2 X2 m3 bm3
  go_enter Try.func71, Try.ntmps71
  go_wp2_with fail
  refine RF.out.mono ?_
  rintro e w5 ⟨f, h, rfl, d5, b5⟩
  have X5 := X3.out.below b5
  obtain ⟨af, cf, ah, ch, rfl, rfl⟩ := d5.sl
  have e0 := X5.c2.1
  have e1 := X5.c2.2
  have q0 := X5.frozen 0
  have q1 := X5.frozen 1
  have g4 := grown_tr (grown_setCell w5 w.heap.size 0 (.slice af newM.length cf)) (grown_setCell _ w.heap.size 1 (.slice ah ([] : List Hl).length ch))
  have Z5 := hide ((X5.set 0 (.slice af newM.length cf)).set 1 (.slice ah ([] : List Hl).length ch))
  have B5 := B3.out.trans (b5.mono B3.out.size)
  have sz := X3.out.lt
  have D5 := hide (d5.wider (lo' := w.heap.size + 1) (by omega) (Nat.le_refl _))
  have D6 := hide (D5.out.chg (Chg.ofGrown (lo := w.heap.size) (hi := w.heap.size + 1) g4 (fun k h => by cases h; omega)) (.inr (Nat.le_refl _)))
  have G5 := hide (B5.grown g4 B5.size (fun j hj => by cases hj; exact Nat.le_refl _))
  have S5 := hide g4.size
  clear X5 B5 g4 d5 b5 sz hmm hrun
  obtain ⟨n1, hn1⟩ : ∃ n, n = newM.length := ⟨_, rfl⟩
  obtain ⟨n2, hn2⟩ : ∃ n, n = ([] : List Hl).length := ⟨_, rfl⟩
  rw [← hn1] at Z5 G5 S5 D6
  rw [← hn2] at Z5 G5 S5 D6
  rw [← hn1, ← hn2]
  clear hn1 hn2
  go_wp2
  exact bodyPost_ret (res_rm rfl _ _ w.heap.size _ _ (0, 0) rfl Z5.out) rfl ⟨_, _, rfl, D6.out.wider (Nat.le_succ _) S5.out, G5.out⟩
end Go.Proofs.Ytjffjoednmlkiaa

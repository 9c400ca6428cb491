/-
  The order for a size and the buddy of a room, of the model. No condition. How many places are free, and the greatest order that is free, of both sides. Each contract says what it asks. New rooms, of both sides. No condition. Rooms as rows and as maps of places: what a row of a map is, and how it changes with the map. No condition. Good rooms as maps of places. No condition. The first free room that is great enough. No condition.
-/
import Derived.Test.YtjffjoednmlkiaaPlayRoomsB18
namespace Go.Proofs.Ytjffjoednmlkiaa
open Go.RowKit
set_option linter.unusedVariables false

set_option maxRecDepth 100000 in
set_option maxHeartbeats 800000 in
theorem l14Order_calls (s : Int) (h1 : 1 ≤ s) (h2 : s ≤ 32) (w : World) : Calls Try.prog 121 #[.int .i64 s] w fun e w' => e = .returned (.int .i64 (ordN s : Int)) ∧ w = w' := by
  have LE := ordN_le s
  have LT := hide (ordN_lt s h1 h2)
  obtain ⟨N, hN⟩ : ∃ N, N = ordN s := ⟨_, rfl⟩
  rw [← hN] at LE LT ⊢
  clear hN
  go_enter Try.func121, Try.ntmps121
  go_wp2
  go_loop [3] (fun vk => ∃ k : Nat, k ≤ N ∧ vk = .int .i64 k) (fun vk => N - (intOf vk).toNat)
  case atStart => exact ⟨0, Nat.zero_le _, rfl⟩
  case round =>
    obtain ⟨k, hk, rfl⟩ := hrel
    have T := LT.out k hk
    have P := wrap_pw k (by omega)
    obtain ⟨p, hp⟩ : ∃ p, p = pw k := ⟨_, rfl⟩
    rw [← hp] at P T
    clear hp
    by_cases hlt : k < N
    · have hps := T.2 hlt
      clear T
      go_wp2
      go_round
      case rel => exact ⟨k + 1, by omega, by go_num⟩
      case measure => simp [intOf]; omega
    · have hps : s ≤ p := by
        have : ¬ p < s := fun h => hlt (T.1 h)
        omega
      obtain rfl : k = N := by omega
      clear T
      go_wp2
      go_ret
      exact ⟨rfl, rfl⟩

end Go.Proofs.Ytjffjoednmlkiaa

namespace Go.Proofs.Ytjffjoednmlkiaa
open Go.RowKit
set_option linter.unusedVariables false

theorem tot_row : ∀ (m : List (List Int)) (k : Nat), (m.getD k []).length ≤ tot m
  | [], k => by simp [tot]
  | r :: m, 0 => by simp [tot]
  | r :: m, k + 1 => by
      have := tot_row m k
      simp [tot] at *
      omega
/-- The places in the free rooms of the orders below k. -/
def frS (m : List (List Int)) : Nat → Int
  | 0 => 0
  | k + 1 => frS m k + ((m.getD k []).length : Int) * pw k
theorem frS_le (m : List (List Int)) (hz : tot m ≤ 1048576) : ∀ k, k ≤ 6 → 0 ≤ frS m k ∧ frS m k ≤ 33554432 * k
  | 0, _ => by simp [frS]
  | k + 1, h => by
      have ih := frS_le m hz k (by omega)
      have h1 := tot_row m k
      have h2 : (0 : Int) ≤ pw k ∧ pw k ≤ 32 := ⟨by have := pw_pos k; omega, pw_le k (by omega)⟩
      have h3 : 0 ≤ ((m.getD k []).length : Int) * pw k := Int.mul_nonneg (by omega) h2.1
      have h4 : ((m.getD k []).length : Int) * pw k ≤ 1048576 * 32 := Int.mul_le_mul (by omega) h2.2 h2.1 (by omega)
      simp only [frS]
      constructor
      · omega
      · push_cast; omega
/-- The greatest order below k that has a free room, or minus one. -/
def mfS (m : List (List Int)) : Nat → Int
  | 0 => -1
  | k + 1 => if (m.getD k []).length = 0 then mfS m k else (k : Int)
theorem shlR (l : Int) (k : Nat) (hk : k ≤ 5) : wrap64 (l * 2 ^ k) = wrap64 (l * pw k) := by
  have : k = 0 ∨ k = 1 ∨ k = 2 ∨ k = 3 ∨ k = 4 ∨ k = 5 := by omega
  rcases this with rfl | rfl | rfl | rfl | rfl | rfl <;> rfl

end Go.Proofs.Ytjffjoednmlkiaa

namespace Go.Proofs.Ytjffjoednmlkiaa
open Go.RowKit Go.Maps Go.MapKept Go.ChangeMaps
set_option linter.unusedVariables false

def newM : List (List Int) := [[], [], [], [], [], [0]]
theorem own_one (w : World) (x : Int) (c : Array Value) (hc : c = #[.int .i64 x]) : Own (w.alloc (.cells c 3)) w.heap.size (.slice (some ⟨w.heap.size, 0, none⟩) 1 1) [x] := by
  subst hc
  exact ⟨by simp, .inr ⟨w.heap.size, 1, _, rfl, Nat.le_refl _, heap_alloc_new w _, by simp, by unfold maxLen; omega, by simp, by simp⟩⟩

set_option maxRecDepth 100000 in
set_option maxHeartbeats 1600000 in
theorem sNewRooms_calls (w : World) :
    Calls Try.prog 67 #[] w fun e w' => ∃ f h, e = .returned (.agg #[f, h]) ∧ RomV w' w.heap.size w'.heap.size f h newM [] ∧ Below w.heap.size w w' := by
  have A0 := hide ((Hand.start w).box nilR 29)
  go_enter Try.func67, Try.ntmps67
  go_wp2_with (at_make; refine wpList_make_rows rfl _ _ rfl _ _ 6 rfl rfl rfl rfl (by omega) ?_)
  intro w1 mv g1
  have b1 : Below w.heap.size w w1 := A0.out.below.grown g1 A0.out.below.size (fun k h => by cases h)
  have X0 : BoxAt w1 w.heap.size nilR 29 := (A0.out.atBox 0 rfl).kept g1 (by simp)
  have gb := (World.ownsRow.lt mv.head (w.heap.size + 1) rfl).2
  have x1 := BoxAt.new w1 #[.slice (some ⟨w.heap.size + 1, 0, none⟩) 6 6, .slice none 0 0] 29
  have bb := below_box w1 (.cells #[.slice (some ⟨w.heap.size + 1, 0, none⟩) 6 6, .slice none 0 0] 29)
  have M2 := mv.below bb
  have X2 := X0.below bb
  have B2 := b1.trans (bb.mono b1.size)
  have sz2 : (w1.alloc (.cells #[.slice (some ⟨w.heap.size + 1, 0, none⟩) 6 6, .slice none 0 0] 29)).heap.size = w1.heap.size + 1 := by simp [World.size_alloc]
  have bb3 := below_box (w1.alloc (.cells #[.slice (some ⟨w.heap.size + 1, 0, none⟩) 6 6, .slice none 0 0] 29)) (.cells #[.int .i64 0] 3)
  have o3 := own_one (w1.alloc (.cells #[.slice (some ⟨w.heap.size + 1, 0, none⟩) 6 6, .slice none 0 0] 29)) 0 _ rfl
  have sz3 := bb3.size
  have L := M2.lay 5 (by decide) bb3 _ _ o3 (by omega) (by omega)
  have M3 := M2.below bb3
  have X3 := x1.below bb3
  have Y3 := X2.below bb3
  have B3 := B2.trans (bb3.mono B2.size)
  rw [sz2] at L
  have c3 : ((w1.alloc (.cells #[.slice (some ⟨w.heap.size + 1, 0, none⟩) 6 6, .slice none 0 0] 29)).alloc (.cells #[.int .i64 0] 3)).cell? ⟨w.heap.size + 1, 5, none⟩ = some nilRow := head_cell M3.head 5 (by omega)
  have f3 : ((w1.alloc (.cells #[.slice (some ⟨w.heap.size + 1, 0, none⟩) 6 6, .slice none 0 0] 29)).alloc (.cells #[.int .i64 0] 3)).frozen? ⟨w.heap.size + 1, 5, none⟩ = false := World.ownsRow.frozenAt M3.head 5
  have c2 := x1.c2.1
  have X4 := X3.kept L.2 (by simp; omega)
  have Y4 := Y3.kept L.2 (by simp)
  have d0 := X4.c2.1
  have d1 := X4.c2.2
  have e0 := Y4.c2.1
  have e1 := Y4.c2.2
  have q0 := Y4.frozen 0
  have q1 := Y4.frozen 1
  have B4 := B3.grown L.2 B3.size (fun k h => by cases h; omega)
  have g4 := grown_tr (grown_setCell (World.setCell ((w1.alloc (.cells #[.slice (some ⟨w.heap.size + 1, 0, none⟩) 6 6, .slice none 0 0] 29)).alloc (.cells #[.int .i64 0] 3)) ⟨w.heap.size + 1, 5, none⟩ (.slice (some ⟨w1.heap.size + 1, 0, none⟩) 1 1)) w.heap.size 0 (.slice (some ⟨w.heap.size + 1, 0, none⟩) 6 6)) (grown_setCell _ w.heap.size 1 (.slice none 0 0))
  have Z5 := hide ((Y4.set 0 (.slice (some ⟨w.heap.size + 1, 0, none⟩) 6 6)).set 1 (.slice none 0 0))
  have M5 : Hid (Mat _ _ _ _ newM) := Mat.keptBox ⟨_, L.1⟩ Y4 (by decide) (by decide) g4
  have G5 := hide (B4.grown g4 B4.size (fun j hj => by cases hj; exact Nat.le_refl _))
  have S5 := hide g4.size
  clear mv g1 b1 A0 x1 bb X0 gb M2 X2 B2 sz2 bb3 o3 sz3 L M3 X3 Y3 B3 X4 Y4 B4 g4
  go_wp2
  refine bodyPost_ret (res_rm rfl _ _ w.heap.size _ _ (0, 0) rfl Z5.out) rfl ⟨_, _, rfl, ?_, G5.out⟩
  exact ⟨M5.out.wider (by omega) S5.out, World.ownsRow_nil _ _ _ _, fun k hk => by simp [Value.ownBlock] at hk⟩

theorem none32_getD (p : Nat) : none32.getD p none = none := by
  unfold none32
  rw [List.getD_eq_getElem?_getD, List.getElem?_replicate]
  split <;> rfl
set_option maxRecDepth 100000 in
set_option maxHeartbeats 1600000 in
theorem newRooms_calls (w : World) :
    Calls Try.prog 71 #[] w fun e w' => ∃ f h, e = .returned (.agg #[f, h]) ∧ RomV w' w.heap.size w'.heap.size f h newM [] ∧ Below w.heap.size w w' := by
  have hmm := @run_makeMap Try.prog
  have m1 := MapAt.new (w.alloc (.cells nilR 29))
  have A0 := hide ((Hand.start w).box nilR 29)
  have bm := below_box (w.alloc (.cells nilR 29)) (.map #[] 0)
  obtain ⟨w2, hrun, hat, hg, hsz⟩ := m1.put 0 (by omega) 5 (wfI_small (by omega) (by omega))
  simp only [World.size_alloc] at hrun hat hg hsz
  rw [show ((0 : Nat) : Int) = 0 from rfl] at hrun
  have b2 : Below w.heap.size w w2 := ((A0.out.below.trans (bm.mono A0.out.below.size))).grown hg (by simp only [World.size_alloc]; omega) (fun k h => by cases h; omega)
  have X2 : BoxAt w2 w.heap.size nilR 29 := ((A0.out.atBox 0 rfl).below bm).kept hg (by simp)
  have m3 := MapAt.new w2
  have bm3 := below_box w2 (.map #[] 0)
  have M1 : Hid (MapAt (w2.alloc (.map #[] 0)) (w.heap.size + 1) (none32.set 0 (some 5))) := hat.below bm3
  have M2 := hide m3
  have X3 := hide (X2.below bm3)
  have B3 := hide (b2.trans (bm3.mono b2.size))
  have RF := hide (roomsFrom_calls (w.heap.size + 1) w2.heap.size (none32.set 0 (some 5)) none32 _ M1.out M2.out (fun p x h => by
    rw [getD_set _ _ _ _ _ (by decide)] at h
    split at h
    · cases h; omega
    · rw [none32_getD] at h; cases h))
  have k1 : rowsK (none32.set 0 (some 5)) (keysG (none32.set 0 (some 5))) = newM := by decide
  have k2 : heldK none32 (keysG none32) = [] := by decide
  rw [k1, k2] at RF
  clear k1 k2
  clear m1 A0 bm hat hg hsz b2 X2 m3 bm3
  go_enter Try.func71, Try.ntmps71
  go_wp2_with fail
  refine RF.out.mono ?_
  rintro e w5 ⟨f, h, rfl, d5, b5⟩
  have X5 := X3.out.below b5
  obtain ⟨af, cf, ah, ch, rfl, rfl⟩ := d5.sl
  have e0 := X5.c2.1
  have e1 := X5.c2.2
  have q0 := X5.frozen 0
  have q1 := X5.frozen 1
  have g4 := grown_tr (grown_setCell w5 w.heap.size 0 (.slice af newM.length cf)) (grown_setCell _ w.heap.size 1 (.slice ah ([] : List Hl).length ch))
  have Z5 := hide ((X5.set 0 (.slice af newM.length cf)).set 1 (.slice ah ([] : List Hl).length ch))
  have B5 := B3.out.trans (b5.mono B3.out.size)
  have sz := X3.out.lt
  have D5 := hide (d5.wider (lo' := w.heap.size + 1) (by omega) (Nat.le_refl _))
  have D6 := hide (D5.out.chg (Chg.ofGrown (lo := w.heap.size) (hi := w.heap.size + 1) g4 (fun k h => by cases h; omega)) (.inr (Nat.le_refl _)))
  have G5 := hide (B5.grown g4 B5.size (fun j hj => by cases hj; exact Nat.le_refl _))
  have S5 := hide g4.size
  clear X5 B5 g4 d5 b5 sz hmm hrun
  obtain ⟨n1, hn1⟩ : ∃ n, n = newM.length := ⟨_, rfl⟩
  obtain ⟨n2, hn2⟩ : ∃ n, n = ([] : List Hl).length := ⟨_, rfl⟩
  rw [← hn1] at Z5 G5 S5 D6
  rw [← hn2] at Z5 G5 S5 D6
  rw [← hn1, ← hn2]
  clear hn1 hn2
  go_wp2
  exact bodyPost_ret (res_rm rfl _ _ w.heap.size _ _ (0, 0) rfl Z5.out) rfl ⟨_, _, rfl, D6.out.wider (Nat.le_succ _) S5.out, G5.out⟩
end Go.Proofs.Ytjffjoednmlkiaa

namespace Go.Proofs.Ytjffjoednmlkiaa
open Go.RowKit Go.Maps Go.MapKept Go.ChangeMaps
set_option linter.unusedVariables false

theorem rise_ext {xs ys : List Int} (hx : xs.Pairwise (· < ·)) (hy : ys.Pairwise (· < ·)) (hm : ∀ k, k ∈ xs ↔ k ∈ ys) : xs = ys := by
  have nd : xs.Nodup := hx.imp (fun h => by omega)
  exact ((sorted_is nd hx (fun _ => Iff.rfl)).1).symm.trans (sorted_is nd hy hm).1
theorem lkM_set (F : Om) (q : Nat) (v : Option Int) (hq : q < F.length) (k : Int) : lkM (F.set q v) k = if k = (q : Int) then v else lkM F k := by
  by_cases h0 : 0 ≤ k
  · obtain ⟨p, rfl⟩ : ∃ p : Nat, k = (p : Int) := ⟨k.toNat, by omega⟩
    rw [lkM_nat, lkM_nat, getD_set _ _ _ _ _ hq]
    by_cases e : p = q
    · rw [if_pos e, if_pos (by omega)]
    · rw [if_neg e, if_neg (by omega)]
  · have : lkM (F.set q v) k = none := if_neg h0
    have h2 : lkM F k = none := if_neg h0
    rw [this, h2, if_neg (by omega)]
/-- The places that the map holds at an order, in their order. -/
structure IsRow (F : Om) (o : Nat) (xs : List Int) : Prop where
  rise : xs.Pairwise (· < ·)
  mem : ∀ k, k ∈ xs ↔ lkM F k = some (o : Int)
theorem rowK_is (F : Om) (o : Nat) : IsRow F o (rowK F o (keysG F)) := by
  refine ⟨(selF_rise _ _).sublist List.filter_sublist, fun k => ?_⟩
  unfold rowK
  rw [List.mem_filter, keysG_mem, decide_eq_true_eq]
  cases h : lkM F k with
  | none => simp
  | some y => simp
theorem IsRow.eq {F : Om} {o : Nat} {xs ys : List Int} (h : IsRow F o xs) (k : IsRow F o ys) : xs = ys :=
  rise_ext h.rise k.rise (fun x => (h.mem x).trans (k.mem x).symm)
theorem mem_putS (n : Int) : ∀ (xs : List Int) (k : Int), k ∈ putS n xs ↔ k = n ∨ k ∈ xs
  | [], k => by simp [putS]
  | x :: r, k => by
      have ih := mem_putS n r k
      simp only [putS]
      split
      · rw [List.mem_cons, ih, List.mem_cons]
        constructor
        · rintro (h | h | h)
          · exact .inr (.inl h)
          · exact .inl h
          · exact .inr (.inr h)
        · rintro (h | h | h)
          · exact .inr (.inl h)
          · exact .inl h
          · exact .inr (.inr h)
      · split
        · rename_i e
          subst e
          simp
        · simp
theorem rise_putS (n : Int) : ∀ (xs : List Int), xs.Pairwise (· < ·) → (putS n xs).Pairwise (· < ·)
  | [], _ => by simp [putS]
  | x :: r, h => by
      obtain ⟨h1, h2⟩ := List.pairwise_cons.1 h
      have ih := rise_putS n r h2
      simp only [putS]
      split
      · refine List.pairwise_cons.2 ⟨fun y hy => ?_, ih⟩
        rcases (mem_putS n r y).1 hy with rfl | hy
        · assumption
        · exact h1 y hy
      · split
        · exact h
        · refine List.pairwise_cons.2 ⟨fun y hy => ?_, h⟩
          rcases List.mem_cons.1 hy with rfl | hy
          · omega
          · have := h1 y hy
            omega
theorem IsRow.put {F : Om} {o : Nat} {xs : List Int} (h : IsRow F o xs) (q : Nat) (hq : q < F.length) : IsRow (F.set q (some (o : Int))) o (putS (q : Int) xs) := by
  refine ⟨rise_putS _ _ h.rise, fun k => ?_⟩
  rw [mem_putS, lkM_set F q _ hq]
  by_cases e : k = (q : Int)
  · simp [e]
  · rw [if_neg e, ← h.mem]; simp [e]
theorem IsRow.other {F : Om} {o : Nat} {xs : List Int} (h : IsRow F o xs) (q : Nat) (hq : q < F.length) (v : Option Int) (h1 : lkM F (q : Int) ≠ some (o : Int)) (h2 : v ≠ some (o : Int)) : IsRow (F.set q v) o xs := by
  refine ⟨h.rise, fun k => ?_⟩
  rw [lkM_set F q _ hq, h.mem]
  by_cases e : k = (q : Int)
  · subst e; rw [if_pos rfl]; exact ⟨fun x => absurd x h1, fun x => absurd x h2⟩
  · rw [if_neg e]
theorem IsRow.drop {F : Om} {o : Nat} {xs : List Int} (h : IsRow F o xs) (q : Nat) (hq : q < F.length) (v : Option Int) (h2 : v ≠ some (o : Int)) : IsRow (F.set q v) o (xs.filter fun x => decide (x ≠ (q : Int))) := by
  refine ⟨h.rise.sublist List.filter_sublist, fun k => ?_⟩
  rw [lkM_set F q _ hq, List.mem_filter, h.mem, decide_eq_true_eq]
  by_cases e : k = (q : Int)
  · subst e; rw [if_pos rfl]; exact ⟨fun x => absurd rfl x.2, fun x => absurd x h2⟩
  · rw [if_neg e]; exact ⟨fun x => x.1, fun x => ⟨x, e⟩⟩
theorem IsRow.tail {F : Om} {o : Nat} {q : Nat} {xs : List Int} (h : IsRow F o ((q : Int) :: xs)) (hq : q < F.length) (v : Option Int) (h2 : v ≠ some (o : Int)) : IsRow (F.set q v) o xs := by
  have hp := List.pairwise_cons.1 h.rise
  refine ⟨hp.2, fun k => ?_⟩
  rw [lkM_set F q _ hq]
  have := h.mem k
  rw [List.mem_cons] at this
  by_cases e : k = (q : Int)
  · subst e
    rw [if_pos rfl]
    exact ⟨fun x => by have := hp.1 _ x; omega, fun x => absurd x h2⟩
  · rw [if_neg e, ← this]
    exact ⟨.inr, fun x => x.resolve_left e⟩

theorem ext_getDR {α : Type} (d : α) (xs ys : List α) (hl : xs.length = ys.length) (h : ∀ i, i < xs.length → xs.getD i d = ys.getD i d) : xs = ys := by
  refine List.ext_getElem hl (fun i h1 h2 => ?_)
  have := h i h1
  simp only [List.getD_eq_getElem?_getD, List.getElem?_eq_getElem h1, List.getElem?_eq_getElem h2, Option.getD_some] at this
  exact this
/-- All rows of the map. -/
structure AllRows (F : Om) (m : List (List Int)) : Prop where
  len : F.length = 32
  six : m.length = 6
  row : ∀ o, o < 6 → IsRow F o (m.getD o [])
theorem AllRows.is {F : Om} {m : List (List Int)} (h : AllRows F m) : rowsK F (keysG F) = m := by
  refine ext_getDR [] _ _ (by rw [rowsK_len, h.six]) (fun i h1 => ?_)
  have i6 : i < 6 := by rw [rowsK_len] at h1; exact h1
  rw [rowsK_get F _ i i6]
  exact (rowK_is F i).eq (h.row i i6)
theorem AllRows.put {F : Om} {m : List (List Int)} (h : AllRows F m) (q o : Nat) (hq : q < 32) (ho : o < 6) (hn : F.getD q none = none) : AllRows (F.set q (some (o : Int))) (m.set o (putS (q : Int) (m.getD o []))) := by
  have hql : q < F.length := by rw [h.len]; exact hq
  refine ⟨by rw [List.length_set]; exact h.len, by rw [List.length_set]; exact h.six, fun i hi => ?_⟩
  rw [getD_set _ _ _ _ _ (by rw [h.six]; exact ho)]
  by_cases e : i = o
  · subst e; rw [if_pos rfl]; exact (h.row i hi).put q hql
  · rw [if_neg e]
    exact (h.row i hi).other q hql _ (by rw [lkM_nat, hn]; simp) (by simp; omega)
theorem AllRows.pop {F : Om} {m : List (List Int)} (h : AllRows F m) (q o : Nat) (r : List Int) (ho : o < 6) (hr : m.getD o [] = (q : Int) :: r) : AllRows (F.set q none) (m.set o r) := by
  have hi0 := h.row o ho
  rw [hr] at hi0
  have hq := (hi0.mem q).1 (by simp)
  have hql := (lkM_some hq).2.1
  have hql : q < F.length := by omega
  refine ⟨by rw [List.length_set]; exact h.len, by rw [List.length_set]; exact h.six, fun i hi => ?_⟩
  rw [getD_set _ _ _ _ _ (by rw [h.six]; exact ho)]
  by_cases e : i = o
  · subst e; rw [if_pos rfl]; exact hi0.tail hql _ (by simp)
  · rw [if_neg e]
    exact (h.row i hi).other q hql _ (by rw [hq]; simp; omega) (by simp)
theorem AllRows.del {F : Om} {m : List (List Int)} (h : AllRows F m) (q o : Nat) (hq : q < 32) (ho : o < 6) (hv : F.getD q none = some (o : Int)) : AllRows (F.set q none) (m.set o ((m.getD o []).filter fun x => decide (x ≠ (q : Int)))) := by
  have hql : q < F.length := by rw [h.len]; exact hq
  refine ⟨by rw [List.length_set]; exact h.len, by rw [List.length_set]; exact h.six, fun i hi => ?_⟩
  rw [getD_set _ _ _ _ _ (by rw [h.six]; exact ho)]
  by_cases e : i = o
  · subst e; rw [if_pos rfl]; exact (h.row i hi).drop q hql _ (by simp)
  · rw [if_neg e]
    exact (h.row i hi).other q hql _ (by rw [lkM_nat, hv]; simp; omega) (by simp)

/-- The second halves that a halved room leaves, laid into a map that the room is not in. -/
def plG (a want : Nat) : Nat → Om → Om
  | 0, G => G
  | j + 1, G => plG a want j (G.set (a + 2 ^ (want + j)) (some ((want + j : Nat) : Int)))
/-- The same, laid into rows. -/
def plR (a want : Nat) : Nat → List (List Int) → List (List Int)
  | 0, m => m
  | j + 1, m => plR a want j (m.set (want + j) (putS ((a + 2 ^ (want + j) : Nat) : Int) (m.getD (want + j) [])))
theorem hlG_pl (a want : Nat) : ∀ (j : Nat) (G : Om), (hlG a want j G).set a none = plG a want j (G.set a none)
  | 0, G => rfl
  | j + 1, G => by
      simp only [hlG, plG]
      rw [hlG_pl a want j]
      congr 1
      have hne : a ≠ a + 2 ^ (want + j) := by have := Nat.one_le_two_pow (n := want + j); omega
      rw [List.set_comm _ _ hne.symm, List.set_set]
theorem plR_all (a want : Nat) : ∀ (j : Nat) (G : Om) (m : List (List Int)), AllRows G m → want + j ≤ 5 → a + 2 ^ (want + j) ≤ 32 → (∀ q, a < q → q < a + 2 ^ (want + j) → G.getD q none = none) → AllRows (plG a want j G) (plR a want j m)
  | 0, G, m, h, _, _, _ => h
  | j + 1, G, m, h, h5, hb, hf => by
      have e : 2 ^ (want + (j + 1)) = 2 ^ (want + j) * 2 := by rw [show want + (j + 1) = (want + j) + 1 from rfl, Nat.pow_succ]
      have p1 := Nat.one_le_two_pow (n := want + j)
      have hq : a + 2 ^ (want + j) < 32 := by omega
      refine plR_all a want j _ _ (h.put (a + 2 ^ (want + j)) (want + j) hq (by omega) (hf _ (by omega) (by omega))) (by omega) (by omega) (fun q h1 h2 => ?_)
      rw [getD_set _ _ _ _ _ (by rw [h.len]; exact hq), if_neg (by omega)]
      exact hf q h1 (by omega)

/-- The rooms that the map holds, in their places' order. -/
structure IsHeld (H : Om) (hs : List Hl) : Prop where
  len : H.length = 32
  rise : hs.Pairwise (fun x y => x.1 < y.1)
  mem : ∀ k o, (k, o) ∈ hs ↔ lkM H k = some o
theorem IsHeld.is {H : Om} {hs : List Hl} (h : IsHeld H hs) : heldK H (keysG H) = hs := by
  have hk : keysG H = hs.map Prod.fst := by
    refine rise_ext (selF_rise _ _) (List.pairwise_map.2 h.rise) (fun k => ?_)
    rw [keysG_mem, List.mem_map, Option.isSome_iff_exists]
    constructor
    · rintro ⟨o, ho⟩
      exact ⟨(k, o), (h.mem k o).2 ho, rfl⟩
    · rintro ⟨⟨k', o⟩, ho, rfl⟩
      exact ⟨o, (h.mem _ o).1 ho⟩
  unfold heldK
  rw [hk, List.map_map]
  refine (List.map_congr_left (g := id) (fun x hx => ?_)).trans (List.map_id hs)
  have := (h.mem x.1 x.2).1 hx
  show (x.1, (lkM H x.1).getD 0) = x
  rw [this]
  rfl
/-- A held room is laid at its place. -/
def putH (at_ : Int) (o : Int) (hs : List Hl) : List Hl := hs.filter (fun x => decide (x.1 < at_)) ++ (at_, o) :: hs.filter (fun x => decide (at_ < x.1))
theorem IsHeld.put {H : Om} {hs : List Hl} (h : IsHeld H hs) (q : Nat) (hq : q < 32) (o : Int) : IsHeld (H.set q (some o)) (putH (q : Int) o hs) := by
  refine ⟨by rw [List.length_set]; exact h.len, ?_, fun k o' => ?_⟩
  · unfold putH
    refine List.pairwise_append.2 ⟨h.rise.sublist List.filter_sublist, List.pairwise_cons.2 ⟨fun y hy => ?_, h.rise.sublist List.filter_sublist⟩, fun x hx y hy => ?_⟩
    · exact of_decide_eq_true (List.mem_filter.1 hy).2
    · have h1 := of_decide_eq_true (List.mem_filter.1 hx).2
      rcases List.mem_cons.1 hy with rfl | hy
      · exact h1
      · have h2 := of_decide_eq_true (List.mem_filter.1 hy).2
        omega
  · rw [lkM_set H q _ (by rw [h.len]; exact hq)]
    unfold putH
    rw [List.mem_append, List.mem_cons, List.mem_filter, List.mem_filter, decide_eq_true_eq, decide_eq_true_eq]
    by_cases e : k = (q : Int)
    · subst e
      rw [if_pos rfl]
      simp [eq_comm]
    · rw [if_neg e, ← h.mem]
      constructor
      · rintro (⟨h1, _⟩ | h1 | ⟨h1, _⟩)
        · exact h1
        · simp only [Prod.mk.injEq] at h1; exact absurd h1.1 e
        · exact h1
      · intro h1
        by_cases hl : k < (q : Int)
        · exact .inl ⟨h1, hl⟩
        · exact .inr (.inr ⟨h1, by simp only; omega⟩)
theorem IsHeld.del {H : Om} {hs : List Hl} (h : IsHeld H hs) (q : Nat) (hq : q < 32) : IsHeld (H.set q none) (hs.filter fun x => decide (x.1 ≠ (q : Int))) := by
  refine ⟨by rw [List.length_set]; exact h.len, h.rise.sublist List.filter_sublist, fun k o' => ?_⟩
  rw [lkM_set H q _ (by rw [h.len]; exact hq), List.mem_filter, decide_eq_true_eq, h.mem]
  by_cases e : k = (q : Int)
  · subst e; simp
  · rw [if_neg e]; exact ⟨fun x => x.1, fun x => ⟨x, e⟩⟩
end Go.Proofs.Ytjffjoednmlkiaa

namespace Go.Proofs.Ytjffjoednmlkiaa
open Go.RowKit Go.Maps Go.MapKept Go.ChangeMaps
set_option linter.unusedVariables false

theorem setAll_at : ∀ (L : List Hl) (G : Om) (k : Int), (∀ x, x ∈ L → 0 ≤ x.1 ∧ x.1 < G.length) → (∀ x, x ∈ L → ∀ y, y ∈ L → x.1 = y.1 → x.2 = y.2) →
    (∀ o, (k, o) ∈ L → lkM (setAll G L) k = some o) ∧ ((∀ o, (k, o) ∉ L) → lkM (setAll G L) k = lkM G k)
  | [], G, k, _, _ => ⟨fun o h => by simp at h, fun _ => rfl⟩
  | x :: L, G, k, hr, hu => by
      have hx := hr x (by simp)
      have hxl : x.1.toNat < G.length := by omega
      have ih := setAll_at L (G.set x.1.toNat (some x.2)) k (fun y hy => by rw [List.length_set]; exact hr y (by simp [hy])) (fun y hy z hz => hu y (by simp [hy]) z (by simp [hz]))
      have e : setAll G (x :: L) = setAll (G.set x.1.toNat (some x.2)) L := rfl
      have ls := lkM_set G x.1.toNat (some x.2) hxl k
      have ec : ((x.1.toNat : Nat) : Int) = x.1 := by omega
      rw [ec] at ls
      rw [e]
      constructor
      · intro o ho
        by_cases hl : ∃ o', (k, o') ∈ L
        · obtain ⟨o', ho'⟩ := hl
          have : o' = o := hu (k, o') (by simp [ho']) (k, o) ho rfl
          subst this
          exact ih.1 _ ho'
        · have hxe : x = (k, o) := by
            rcases List.mem_cons.1 ho with h | h
            · exact h.symm
            · exact absurd ⟨o, h⟩ hl
          rw [ih.2 (fun o' ho' => hl ⟨o', ho'⟩), ls, hxe, if_pos rfl]
      · intro hn
        rw [ih.2 (fun o' ho' => hn o' (by simp [ho'])), ls, if_neg]
        intro hk
        exact hn x.2 (by rw [hk]; simp)
theorem lkM_none (k : Int) : lkM none32 k = none := by
  unfold lkM
  split
  · exact none32_getD _
  · rfl
theorem mem_allR : ∀ (m : List (List Int)) (s : Nat) (k o : Int), (k, o) ∈ allR s m ↔ ∃ i : Nat, i < m.length ∧ o = ((s + i : Nat) : Int) ∧ k ∈ m.getD i []
  | [], s, k, o => by simp [allR]
  | r :: m, s, k, o => by
      have ih := mem_allR m (s + 1) k o
      rw [show allR s (r :: m) = r.map (fun x => (x, (s : Int))) ++ allR (s + 1) m from rfl, List.mem_append, ih]
      constructor
      · rintro (h | ⟨i, h1, h2, h3⟩)
        · obtain ⟨x, hx, he⟩ := List.mem_map.1 h
          simp only [Prod.mk.injEq] at he
          obtain ⟨rfl, rfl⟩ := he
          exact ⟨0, by simp, by simp, by simpa using hx⟩
        · exact ⟨i + 1, by simp; omega, by rw [h2]; congr 1; omega, by simpa using h3⟩
      · rintro ⟨i, h1, h2, h3⟩
        cases i with
        | zero => exact .inl (List.mem_map.2 ⟨k, by simpa using h3, by rw [h2]; rfl⟩)
        | succ i => exact .inr ⟨i, by simpa using h1, by rw [h2]; congr 1; omega, by simpa using h3⟩
theorem two_cov {α : Type} (f : α → Bool) : ∀ (A : List α) (x y : α), x ∈ A → y ∈ A → x ≠ y → f x = true → f y = true → 2 ≤ A.countP f
  | [], x, y, h, _, _, _, _ => by simp at h
  | z :: A, x, y, hx, hy, hne, fx, fy => by
      rw [List.countP_cons]
      rcases List.mem_cons.1 hx with e1 | m1
      · rcases List.mem_cons.1 hy with e2 | m2
        · exact absurd (e1.trans e2.symm) hne
        · have : 0 < A.countP f := List.countP_pos_iff.2 ⟨y, m2, fy⟩
          rw [← e1, if_pos fx]; omega
      · rcases List.mem_cons.1 hy with e2 | m2
        · have : 0 < A.countP f := List.countP_pos_iff.2 ⟨x, m1, fx⟩
          rw [← e2, if_pos fy]; omega
        · have := two_cov f A x y m1 m2 hne fx fy
          omega
theorem adj_rise {α : Type} (f : α → Int) (d : α) : ∀ (xs : List α), (∀ i, i < xs.length → i = 0 ∨ f (xs.getD (i - 1) d) < f (xs.getD i d)) → xs.Pairwise (fun x y => f x < f y)
  | [], _ => List.Pairwise.nil
  | [x], _ => by simp
  | x :: y :: r, h => by
      have ih := adj_rise f d (y :: r) (fun i hi => by
        by_cases e : i = 0
        · exact .inl e
        · have := (h (i + 1) (by simpa using hi)).resolve_left (by omega)
          obtain ⟨j, rfl⟩ : ∃ j, i = j + 1 := ⟨i - 1, by omega⟩
          exact .inr (by simpa using this))
      have h0 : f x < f y := by
        have := (h 1 (by simp)).resolve_left (by omega)
        simpa using this
      refine List.pairwise_cons.2 ⟨fun z hz => ?_, ih⟩
      rcases List.mem_cons.1 hz with rfl | hz
      · exact h0
      · have := (List.pairwise_cons.1 ih).1 z hz
        omega
section
variable {m : List (List Int)} {hs : List Hl}
theorem RoomsOk.rmFree (h : RoomsOk m hs) {k o : Int} (hk : (k, o) ∈ allR 0 m) : rmP k o := by
  obtain ⟨i, h1, h2, h3⟩ := (mem_allR m 0 k o).1 hk
  rw [Nat.zero_add] at h2
  subst h2
  obtain ⟨j, hj, he⟩ := List.getElem_of_mem h3
  have := (h.rows i h1 j hj).1
  rw [List.getD_eq_getElem?_getD, List.getElem?_eq_getElem hj, Option.getD_some, he] at this
  exact this
theorem RoomsOk.rmHeld (h : RoomsOk m hs) {k o : Int} (hk : (k, o) ∈ hs) : rmP k o := by
  obtain ⟨j, hj, he⟩ := List.getElem_of_mem hk
  have := (h.held j hj).1
  rw [List.getD_eq_getElem?_getD, List.getElem?_eq_getElem hj, Option.getD_some, he] at this
  exact this
theorem rm_cvr {k o : Int} (h : rmP k o) (p : Nat) (h1 : k ≤ (p : Int)) (h2 : (p : Int) < k + pw o.toNat) : cvr p (k, o) = true := decide_eq_true ⟨h1, h2⟩
theorem rm_self {k o : Int} (h : rmP k o) : ∃ p : Nat, p < 32 ∧ (p : Int) = k ∧ cvr p (k, o) = true := by
  obtain ⟨_, _, h0, h1, _⟩ := h
  exact ⟨k.toNat, by omega, by omega, decide_eq_true ⟨by show k ≤ _; omega, by have := pw_pos o.toNat; show _ < k + pw o.toNat; omega⟩⟩
theorem RoomsOk.one (h : RoomsOk m hs) (p : Nat) (hp : p < 32) {x y : Hl} (hx : x ∈ allR 0 m ++ hs) (hy : y ∈ allR 0 m ++ hs) (cx : cvr p x = true) (cy : cvr p y = true) : x = y := by
  have hc := h.cov p hp
  by_cases e : x = y
  · exact e
  · have := two_cov (cvr p) _ x y hx hy e cx cy
    omega
theorem RoomsOk.uniq (h : RoomsOk m hs) : ∀ x, x ∈ allR 0 m → ∀ y, y ∈ allR 0 m → x.1 = y.1 → x.2 = y.2 := by
  intro x hx y hy e
  obtain ⟨p, hp, e1, c1⟩ := rm_self (h.rmFree (k := x.1) (o := x.2) hx)
  obtain ⟨p', hp', e2, c2⟩ := rm_self (h.rmFree (k := y.1) (o := y.2) hy)
  obtain rfl : p = p' := by omega
  rw [h.one p hp (List.mem_append_left _ hx) (List.mem_append_left _ hy) c1 c2]
theorem RoomsOk.uniqH (h : RoomsOk m hs) : ∀ x, x ∈ hs → ∀ y, y ∈ hs → x.1 = y.1 → x.2 = y.2 := by
  intro x hx y hy e
  obtain ⟨p, hp, e1, c1⟩ := rm_self (h.rmHeld (k := x.1) (o := x.2) hx)
  obtain ⟨p', hp', e2, c2⟩ := rm_self (h.rmHeld (k := y.1) (o := y.2) hy)
  obtain rfl : p = p' := by omega
  rw [h.one p hp (List.mem_append_right _ hx) (List.mem_append_right _ hy) c1 c2]
theorem none32_l : none32.length = 32 := none32_len
theorem RoomsOk.all (h : RoomsOk m hs) : AllRows (freeG m) m := by
  refine ⟨by rw [setAll_len]; exact none32_l, h.len, fun o ho => ?_⟩
  have hom : o < m.length := by rw [h.len]; exact ho
  refine ⟨adj_rise (fun x => x) 0 _ (fun i hi => (h.rows o hom i hi).2.1), fun k => ?_⟩
  have sa := setAll_at (allR 0 m) none32 k (fun x hx => by
    have := h.rmFree (k := x.1) (o := x.2) hx
    rw [none32_l]
    exact ⟨this.2.2.1, by have := this.2.2.2.1; omega⟩) h.uniq
  constructor
  · intro hk
    exact sa.1 _ ((mem_allR m 0 k o).2 ⟨o, hom, by rw [Nat.zero_add], hk⟩)
  · intro hk
    by_cases hl : ∃ o', (k, o') ∈ allR 0 m
    · obtain ⟨o', ho'⟩ := hl
      have e := sa.1 _ ho'
      rw [show setAll none32 (allR 0 m) = freeG m from rfl, hk] at e
      obtain ⟨i, h1, h2, h3⟩ := (mem_allR m 0 k o').1 ho'
      obtain rfl : i = o := by
        simp only [Option.some.injEq] at e
        omega
      exact h3
    · have e := sa.2 (fun o' ho' => hl ⟨o', ho'⟩)
      rw [show setAll none32 (allR 0 m) = freeG m from rfl, hk, lkM_none] at e
      cases e
theorem RoomsOk.heldIs (h : RoomsOk m hs) : IsHeld (heldM hs) hs := by
  refine ⟨by rw [setAll_len]; exact none32_l, adj_rise (fun x : Hl => x.1) hl0 _ (fun i hi => (h.held i hi).2), fun k o => ?_⟩
  have sa := setAll_at hs none32 k (fun x hx => by
    have := h.rmHeld (k := x.1) (o := x.2) hx
    rw [none32_l]
    exact ⟨this.2.2.1, by have := this.2.2.2.1; omega⟩) h.uniqH
  constructor
  · exact sa.1 o
  · intro hk
    by_cases hl : ∃ o', (k, o') ∈ hs
    · obtain ⟨o', ho'⟩ := hl
      have e := sa.1 _ ho'
      rw [show setAll none32 hs = heldM hs from rfl, hk] at e
      simp only [Option.some.injEq] at e
      rw [e]
      exact ho'
    · have e := sa.2 (fun o' ho' => hl ⟨o', ho'⟩)
      rw [show setAll none32 hs = heldM hs from rfl, hk, lkM_none] at e
      cases e
theorem RoomsOk.freeMem (h : RoomsOk m hs) {k : Int} {o : Int} (hk : lkM (freeG m) k = some o) : (k, o) ∈ allR 0 m := by
  have hr := h.all
  by_cases hl : ∃ o', (k, o') ∈ allR 0 m
  · obtain ⟨o', ho'⟩ := hl
    obtain ⟨i, h1, h2, h3⟩ := (mem_allR m 0 k o').1 ho'
    have := ((hr.row i (by rw [← h.len]; exact h1)).mem k).1 h3
    rw [hk] at this
    simp only [Option.some.injEq] at this
    rw [this, show ((i : Nat) : Int) = o' from by rw [h2, Nat.zero_add]]
    exact ho'
  · have sa := setAll_at (allR 0 m) none32 k (fun x hx => by
      have := h.rmFree (k := x.1) (o := x.2) hx
      rw [none32_l]
      exact ⟨this.2.2.1, by have := this.2.2.2.1; omega⟩) h.uniq
    have e := sa.2 (fun o' ho' => hl ⟨o', ho'⟩)
    rw [show setAll none32 (allR 0 m) = freeG m from rfl, hk, lkM_none] at e
    cases e
/-- Nothing free begins inside a free room. -/
theorem RoomsOk.inside (h : RoomsOk m hs) {a o : Nat} (ha : lkM (freeG m) (a : Int) = some (o : Int)) (q : Nat) (h1 : a < q) (h2 : q < a + 2 ^ o) : (freeG m).getD q none = none := by
  rw [← lkM_nat]
  cases hq : lkM (freeG m) (q : Int) with
  | none => rfl
  | some o' =>
    exfalso
    have m1 := h.freeMem ha
    have m2 := h.freeMem hq
    have r2 := h.rmFree m2
    obtain ⟨p, hp, e1, c1⟩ := rm_self r2
    obtain rfl : p = q := by omega
    have c2 : cvr p ((a : Int), (o : Int)) = true := decide_eq_true ⟨by simp only; omega, by simp only [Int.toNat_natCast]; unfold pw; omega⟩
    have := h.one p hp (List.mem_append_left _ m1) (List.mem_append_left _ m2) c2 c1
    simp only [Prod.mk.injEq] at this
    omega
/-- Nothing held begins where a free room does. -/
theorem RoomsOk.apart (h : RoomsOk m hs) {a o : Nat} (ha : lkM (freeG m) (a : Int) = some (o : Int)) (o' : Int) : ((a : Int), o') ∉ hs := by
  intro hh
  have m1 := h.freeMem ha
  obtain ⟨p, hp, e1, c1⟩ := rm_self (h.rmFree m1)
  obtain ⟨p', hp', e2, c2⟩ := rm_self (h.rmHeld hh)
  obtain rfl : p = p' := by omega
  have hc := h.cov p hp
  have n1 := List.countP_pos_iff.2 ⟨_, m1, c1⟩
  have n2 := List.countP_pos_iff.2 ⟨_, hh, c2⟩
  rw [List.countP_append] at hc
  omega
end
end Go.Proofs.Ytjffjoednmlkiaa

namespace Go.Proofs.Ytjffjoednmlkiaa
open Go.RowKit Go.Maps Go.MapKept Go.ChangeMaps
set_option linter.unusedVariables false

theorem AllRows.short {F : Om} {m : List (List Int)} (h : AllRows F m) (o : Nat) (ho : o < 6) : (m.getD o []).length ≤ 32 := by
  rw [(h.row o ho).eq (rowK_is F o)]
  have h1 := rowK_le F o (keysG F)
  have h2 := keysG_len F
  rw [h.len] at h2
  omega
theorem AllRows.in32 {F : Om} {m : List (List Int)} (h : AllRows F m) (o : Nat) (ho : o < 6) (k : Int) (hk : k ∈ m.getD o []) : 0 ≤ k ∧ k < 32 := by
  have := lkM_some (((h.row o ho).mem k).1 hk)
  rw [h.len] at this
  omega
theorem AllRows.tot {F : Om} {m : List (List Int)} (h : AllRows F m) : m.length + tot m ≤ 1048576 := by
  have hl := h.six
  obtain ⟨a, b, c, d, e, f, rfl⟩ : ∃ a b c d e f, m = [a, b, c, d, e, f] := by
    match m, hl with
    | [a, b, c, d, e, f], _ => exact ⟨a, b, c, d, e, f, rfl⟩
  have s0 := h.short 0 (by omega)
  have s1 := h.short 1 (by omega)
  have s2 := h.short 2 (by omega)
  have s3 := h.short 3 (by omega)
  have s4 := h.short 4 (by omega)
  have s5 := h.short 5 (by omega)
  simp only [Go.Proofs.Ytjffjoednmlkiaa.tot, List.map_cons, List.map_nil, List.sum_cons, List.sum_nil, List.length_cons, List.length_nil, List.getD_cons_zero, List.getD_cons_succ] at *
  omega
theorem IsHeld.short {H : Om} {hs : List Hl} (h : IsHeld H hs) : hs.length ≤ 32 := by
  rw [← h.is, heldK_len]
  have := keysG_len H
  rw [h.len] at this
  exact this
theorem RoomsOk.inR {m : List (List Int)} {hs : List Hl} (h : RoomsOk m hs) : InR m hs := by
  refine ⟨by rw [h.len]; omega, fun o ho => ?_, fun i hi => ?_, h.heldIs.short⟩
  · have ho6 : o < 6 := by rw [← h.len]; exact ho
    exact ⟨h.all.short o ho6, fun i hi => h.all.in32 o ho6 _ (getD_memR _ i 0 hi)⟩
  · have := (h.held i hi).1
    obtain ⟨a, b, c, d, _⟩ := this
    exact ⟨⟨c, d⟩, a, b⟩
theorem fsF_inv (G : Om) (want : Int) (hw : want ≤ 5) (ho : ∀ k ∈ keysG G, (lkM G k).getD 0 < 6) : ∀ n, n ≤ (keysG G).length →
    (∀ k ∈ (keysG G).take n, want ≤ (lkM G k).getD 0 → (fsF G want ((keysG G).take n)).2 ≤ (lkM G k).getD 0) ∧
    ((fsF G want ((keysG G).take n)).2 = 6 ∨ (want ≤ (fsF G want ((keysG G).take n)).2 ∧ (fsF G want ((keysG G).take n)).2 < 6 ∧ (fsF G want ((keysG G).take n)).1 ∈ (keysG G).take n ∧ (lkM G (fsF G want ((keysG G).take n)).1).getD 0 = (fsF G want ((keysG G).take n)).2 ∧ ∀ k ∈ (keysG G).take n, (lkM G k).getD 0 = (fsF G want ((keysG G).take n)).2 → (fsF G want ((keysG G).take n)).1 ≤ k))
  | 0, _ => ⟨fun k h => by simp at h, .inl rfl⟩
  | n + 1, hn => by
      obtain ⟨i1, i2⟩ := fsF_inv G want hw ho n (by omega)
      have hlt : n < (keysG G).length := by omega
      rw [fsF_succ G want (keysG G) n hlt, take_succ_getD (keysG G) n 0 hlt]
      have hmem : (keysG G).getD n 0 ∈ keysG G := getD_memR _ n 0 hlt
      have hgt : ∀ k ∈ (keysG G).take n, k < (keysG G).getD n 0 := by
        have hp : ((keysG G).take (n + 1)).Pairwise (· < ·) := (selF_rise _ _).sublist (List.take_sublist _ _)
        rw [take_succ_getD (keysG G) n 0 hlt] at hp
        intro k hk
        exact (List.pairwise_append.1 hp).2.2 k hk _ (by simp)
      obtain ⟨x, hx⟩ : ∃ x, x = (keysG G).getD n 0 := ⟨_, rfl⟩
      rw [← hx] at hgt hmem ⊢
      obtain ⟨s, hs⟩ : ∃ s, s = fsF G want ((keysG G).take n) := ⟨_, rfl⟩
      rw [← hs] at i1 i2 ⊢
      have hox := ho x hmem
      unfold fsS
      by_cases hc : want ≤ (lkM G x).getD 0 ∧ (lkM G x).getD 0 < s.2
      · rw [if_pos hc]
        refine ⟨fun k hk hwk => ?_, .inr ⟨hc.1, hox, by simp, rfl, fun k hk he => ?_⟩⟩
        · rcases List.mem_append.1 hk with hk | hk
          · have := i1 k hk hwk
            simp only; omega
          · simp only [List.mem_singleton] at hk
            subst hk; exact Int.le_refl _
        · simp only at he ⊢
          rcases List.mem_append.1 hk with hk | hk
          · have := i1 k hk (by omega)
            omega
          · simp only [List.mem_singleton] at hk
            omega
      · rw [if_neg hc]
        refine ⟨fun k hk hwk => ?_, ?_⟩
        · rcases List.mem_append.1 hk with hk | hk
          · exact i1 k hk hwk
          · simp only [List.mem_singleton] at hk
            subst hk
            omega
        · rcases i2 with i2 | ⟨a, b, c, d, e⟩
          · exact .inl i2
          · refine .inr ⟨a, b, List.mem_append_left _ c, d, fun k hk he => ?_⟩
            rcases List.mem_append.1 hk with hk | hk
            · exact e k hk he
            · simp only [List.mem_singleton] at hk
              subst hk
              have := hgt _ c
              omega
theorem AllRows.ord {G : Om} {m : List (List Int)} (h : AllRows G m) (hv : ∀ p x, G.getD p none = some x → 0 ≤ x ∧ x ≤ 5) (k : Int) (hk : k ∈ keysG G) : ∃ o : Nat, o < 6 ∧ lkM G k = some (o : Int) := by
  obtain ⟨x, hx⟩ := Option.isSome_iff_exists.1 ((keysG_mem G k).1 hk)
  have := hv _ x (lkM_some hx).2.2
  exact ⟨x.toNat, by omega, by rw [hx]; congr 1; omega⟩
/-- The first of all is the head of the first row that is not empty. -/
theorem AllRows.first {G : Om} {m : List (List Int)} (h : AllRows G m) (hv : ∀ p x, G.getD p none = some x → 0 ≤ x ∧ x ≤ 5) (want : Nat) (hw : want ≤ 5) :
    ((fsF G (want : Int) (keysG G)).2 = 6 ∧ ∀ o, want ≤ o → o < 6 → m.getD o [] = []) ∨
    ∃ (o a : Nat) (r : List Int), fsF G (want : Int) (keysG G) = ((a : Int), (o : Int)) ∧ want ≤ o ∧ o < 6 ∧ (∀ o', want ≤ o' → o' < o → m.getD o' [] = []) ∧ m.getD o [] = (a : Int) :: r := by
  have inv := fsF_inv G (want : Int) (by omega) (fun k hk => by
    obtain ⟨o, ho, he⟩ := h.ord hv k hk
    rw [he]; simp only [Option.getD_some]; omega) (keysG G).length (Nat.le_refl _)
  rw [List.take_length] at inv
  obtain ⟨s, hs⟩ : ∃ s, s = fsF G (want : Int) (keysG G) := ⟨_, rfl⟩
  rw [← hs] at inv ⊢
  obtain ⟨i1, i2⟩ := inv
  have emp : ∀ o : Nat, want ≤ o → o < 6 → (o : Int) < s.2 → m.getD o [] = [] := by
    intro o h1 h2 h3
    cases hr : m.getD o [] with
    | nil => rfl
    | cons k r =>
      exfalso
      have hk := ((h.row o h2).mem k).1 (by rw [hr]; simp)
      have := i1 k ((keysG_mem G k).2 (by rw [hk]; rfl)) (by rw [hk]; simp only [Option.getD_some]; omega)
      rw [hk] at this
      simp only [Option.getD_some] at this
      omega
  rcases i2 with e6 | ⟨a, b, c, d, e⟩
  · exact .inl ⟨e6, fun o h1 h2 => emp o h1 h2 (by omega)⟩
  · refine .inr ?_
    obtain ⟨o, ho, he⟩ := h.ord hv s.1 c
    have so : s.2 = (o : Int) := by rw [← d, he]; rfl
    obtain ⟨k0, _⟩ := lkM_some he
    have hin : s.1 ∈ m.getD o [] := ((h.row o ho).mem s.1).2 he
    cases hr : m.getD o [] with
    | nil => rw [hr] at hin; simp at hin
    | cons k r =>
      have hk := ((h.row o ho).mem k).1 (by rw [hr]; simp)
      have h1 := e k ((keysG_mem G k).2 (by rw [hk]; rfl)) (by rw [hk, so]; rfl)
      have h2 : k ≤ s.1 := by
        have hp := (h.row o ho).rise
        rw [hr] at hp hin
        rcases List.mem_cons.1 hin with e1 | m1
        · omega
        · have := (List.pairwise_cons.1 hp).1 _ m1
          omega
      have hk1 : k = s.1 := by omega
      refine ⟨o, s.1.toNat, r, ?_, by omega, ho, fun o' h3 h4 => emp o' h3 (by omega) (by omega), ?_⟩
      · have : ((s.1.toNat : Nat) : Int) = s.1 := by omega
        rw [this, ← so]
      · have : ((s.1.toNat : Nat) : Int) = s.1 := by omega
        rw [this, ← hk1]; exact hr
theorem RoomsOk.vals {m : List (List Int)} {hs : List Hl} (h : RoomsOk m hs) : ∀ p x, (freeG m).getD p none = some x → 0 ≤ x ∧ x ≤ 5 := by
  intro p x hx
  have := h.rmFree (h.freeMem (k := (p : Int)) (o := x) (by rw [lkM_nat]; exact hx))
  exact ⟨this.1, this.2.1⟩
end Go.Proofs.Ytjffjoednmlkiaa

/-
  Rows copied, from a place on or whole: the program's functions and its model's, call by call. Each contract says what it asks.
-/
import Derived.Test.YtogopakmebiomaaDoorMake
namespace Go.Proofs.YtogopakmebiomaaDoor
open Go.RowKit

set_option maxRecDepth 100000 in
set_option maxHeartbeats 800000 in
theorem copyList_calls (v : Value) (xs : List Int) (w : World) (h : Rd w v xs) (hn : xs.length ≤ 1048576) :
    Calls Tryd.prog 90 #[v] w fun e w' => ∃ v', e = .returned v' ∧ Own w' w.heap.size v' xs ∧ Below w.heap.size w w' := by
  have R := hide h
  obtain ⟨a, cap, rfl, h1, h2, h3⟩ := h
  clear h3 h2 h1
  go_enter Tryd.func90, Tryd.ntmps90
  go_wp2_with (at_make; refine wpList_make_ints rfl _ _ rfl w.heap.size _ _ xs.length rfl rfl (by omega) (by omega) (by omega) (Nat.le_refl _) ?_)
  intro w0 hown0 hg0
  have hb0 : Below w.heap.size w w0 := (Below.refl _ _).grown hg0 (Nat.le_refl _) (fun k h => by cases h)
  have O0 := hide hown0
  have B0 := hide hb0
  clear hown0 hg0 hb0
  go_wp2_with (refine wpList_copy_fresh rfl _ _ rfl w.heap.size w.heap.size xs.length (List.replicate xs.length 0) rfl O0.out _ rfl xs (R.out.below B0.out) (Nat.le_refl _) (Nat.le_refl _) (by unfold maxLen; omega) w.heap.size w B0.out (Nat.le_refl _) ?_)
  intro w1 ho hb _
  have O1 := hide ho
  have B1 := hide hb
  clear ho hb
  go_wp2
  go_ret
  exact ⟨_, rfl, by simpa using O1.out, B1.out⟩


theorem rd_cut {w : World} {a : Option Addr} {cap f : Nat} {xs : List Int} (h : Rd w (.slice a xs.length cap) xs) (hf : f ≤ xs.length) (hc : f < cap) :
    Rd w (.slice (Option.map (fun x : Addr => x.add f) a) (xs.length - f) (cap - f)) (xs.drop f) := by
  obtain ⟨a', cap', hv, h1, ⟨h2, h2'⟩, h3⟩ := h
  simp only [Value.slice.injEq] at hv
  obtain ⟨rfl, _, rfl⟩ := hv
  refine ⟨_, cap - f, by rw [List.length_drop], by rw [List.length_drop]; omega, ⟨by omega, fun h => ?_⟩, ?_⟩
  · cases a with
    | none => have := h2' rfl; omega
    | some x => simp at h
  · rcases h3 with h3 | ⟨b, off, rfl, hb, hcell⟩
    · left; rw [h3]; simp
    · right
      have hadd : (⟨b, off, none⟩ : Addr).add f = ⟨b, off + f, none⟩ := by unfold Addr.add; split <;> simp_all
      refine ⟨b, off + f, by simp [hadd], hb, fun i hi => ?_⟩
      rw [List.length_drop] at hi
      have := hcell (f + i) (by omega)
      rw [Nat.add_assoc, this]
      simp [List.getD_eq_getElem?_getD]
set_option maxRecDepth 100000 in
set_option maxHeartbeats 800000 in
theorem rowCut_calls (v : Value) (xs : List Int) (f g : Nat) (w : World) (h : Rd w v xs) (hg : w.cell? ⟨g, 0, none⟩ = some (.int .i64 f)) (hf : f ≤ xs.length) (hl : xs.length ≤ 1048576) :
    Calls Tryd.prog 155 #[v, .pointer (some ⟨g, 0, none⟩)] w fun e w' => ∃ v', e = .returned v' ∧ Own w' w.heap.size v' (xs.drop f) ∧ Below w.heap.size w w' := by
  have R := hide h
  obtain ⟨a, cap, rfl, h1, h2, h3⟩ := h
  clear h3
  have hf1 : (f : Int) ≤ (xs.length : Int) := by omega
  have hf0 : (0 : Int) ≤ (f : Int) := by omega
  by_cases hcf : cap = f
  · subst hcf
    have hR : Rd w (.slice a (xs.length - cap) 0) (xs.drop cap) := by
      have e : xs.drop cap = [] := List.drop_eq_nil_of_le h1
      rw [e, show xs.length - cap = 0 from by omega]
      exact ⟨a, 0, rfl, Nat.le_refl _, ⟨Nat.zero_le _, fun _ => rfl⟩, .inl rfl⟩
    have R2 := hide hR
    have R3 : Hid (Rd w (.slice a 0 0) (xs.drop cap)) := by
      have := hR
      rw [show xs.length - cap = 0 from by omega] at this
      exact this
    have HL := hide hl
    clear hR h2 hl
    go_enter Tryd.func155, Tryd.ntmps155
    go_wp2_with fail
    all_goals
      refine (copyList_calls _ (xs.drop cap) _ (by first | exact R2.out | exact R3.out) (by rw [List.length_drop]; have := HL.out; omega)).mono ?_
      rintro e w1 ⟨v1, rfl, ho, hb⟩
      have O := hide ho
      have B := hide hb
      clear ho hb
      go_wp2
      go_ret
      exact ⟨_, rfl, O.out, B.out⟩
  · have R2 := hide (rd_cut R.out hf (by omega))
    have HL := hide hl
    clear h2 hl
    go_enter Tryd.func155, Tryd.ntmps155
    go_wp2_with fail
    all_goals
      refine (copyList_calls _ (xs.drop f) _ (by first | exact R2.out | omega | (exfalso; omega)) (by rw [List.length_drop]; have := HL.out; omega)).mono ?_
      rintro e w1 ⟨v1, rfl, ho, hb⟩
      have O := hide ho
      have B := hide hb
      clear ho hb
      go_wp2
      go_ret
      exact ⟨_, rfl, O.out, B.out⟩

def dropM (m : List (List Int)) (f : Nat) : List (List Int) := m.map fun r => r.drop f
theorem dropM_length (m : List (List Int)) (f : Nat) : (dropM m f).length = m.length := by simp [dropM]
theorem dropM_get (m : List (List Int)) (f k : Nat) (h : k < m.length) : (dropM m f).getD k [] = (m.getD k []).drop f := by simp [dropM, List.getD_eq_getElem?_getD, h]

set_option maxRecDepth 100000 in
set_option maxHeartbeats 800000 in
theorem eachCut_calls (v : Value) (m : List (List Int)) (f g : Nat) (w : World) (h : RdM w v m) (hgc : w.cell? ⟨g, 0, none⟩ = some (.int .i64 f)) (hgl : g < w.heap.size) (hn : m.length ≤ 1048576)
    (hl : ∀ i, i < m.length → f ≤ (m.getD i []).length ∧ (m.getD i []).length ≤ 1048576) :
    Calls Tryd.prog 154 #[v, .func (.func 155) #[] #[.pointer (some ⟨g, 0, none⟩)]] w fun e w' => ∃ v', e = .returned v' ∧ Mat w' w.heap.size w'.heap.size v' (dropM m f) ∧ Below w.heap.size w w' := by
  have R := hide h
  obtain ⟨a, cap, rfl, _⟩ := h
  have HL := hide hl
  clear hl
  obtain ⟨MM, hM⟩ : ∃ M, M = dropM m f := ⟨_, rfl⟩
  rw [← hM]
  have hMl : MM.length = m.length := by rw [hM, dropM_length]
  have hMg : ∀ k, k < m.length → MM.getD k [] = (m.getD k []).drop f := fun k hk => by rw [hM, dropM_get _ _ _ hk]
  have ML := hide hMl
  have MG := hide hMg
  have GC := hide hgc
  clear hM hMl hMg hgc
  go_enter Tryd.func154, Tryd.ntmps154
  go_wp2_with (at_make; refine wpList_make_rows rfl _ _ rfl _ _ m.length rfl rfl (by omega) (by omega) hn ?_)
  intro w0 hm0 hg0
  have M0 := hide hm0
  have G0 := hide hg0
  clear hm0 hg0
  go_wp2
  go_loopw [6, 7, 13] (fun _ _ vi wr => ∃ (k : Nat) (vs : List Value), k ≤ m.length ∧ vi = .int .i64 k ∧ MatV wr w.heap.size wr.heap.size (.slice (some ⟨w.heap.size, 0, none⟩) m.length m.length) vs (toTo MM k) ∧ Below w.heap.size w wr) (fun _ _ vi _ => m.length - (intOf vi).toNat)
  case atStart =>
    refine ⟨0, List.replicate m.length nilRow, Nat.zero_le _, rfl, ?_, (Below.refl _ _).grown G0.out (Nat.le_refl _) (fun k h => by cases h)⟩
    rw [toTo_zero, ML.out]
    exact M0.out
  case round =>
    obtain ⟨k, vs, hk, rfl, hm, hb⟩ := hrel
    have M := hide hm
    have B := hide hb
    clear hm hb
    by_cases hlt : k < m.length
    · have hlt' : (k : Int) < (m.length : Int) := by omega
      obtain ⟨b, off, u, rfl, hc1, hu⟩ := (R.out.below B.out).row k hlt
      have U := hide hu
      clear hu
      have hgc2 : wr.cell? ⟨g, 0, none⟩ = some (.int .i64 f) := (B.out.cell (p := ⟨g, 0, none⟩) hgl).trans GC.out
      have GC2 := hide hgc2
      clear hgc2
      go_wp2_with fail
      refine (rowCut_calls u _ f g _ U.out GC2.out (HL.out k hlt).1 (HL.out k hlt).2).mono ?_
      rintro e w1 ⟨x, rfl, hx, hb1⟩
      obtain ⟨xa, xn, xc, rfl⟩ := hx.shape
      have hkl : k < (toTo MM k).length := by rw [toTo_length _ k (by rw [ML.out]; exact hk), ML.out]; exact hlt
      have hM1 := M.out.below hb1
      have hc2 : w1.frozen? ⟨w.heap.size, k, none⟩ = false := World.ownsRow.frozenAt (by have := hM1.head; rwa [← hM1.lenEq] at this) k
      have hc3 := hM1.cell k hkl
      have L := hide (M.out.lay k hkl hb1 _ _ hx M.out.sizeLo (Nat.le_refl _))
      have B1 := hide hb1
      clear hM1 hx hb1
      go_wp2
      go_roundw
      case rel =>
        refine ⟨k + 1, vs.set k (.slice xa xn xc), by omega, by go_num, ?_, ?_⟩
        · have := L.out.1
          rw [← MG.out k hlt, toTo_step _ k (by rw [ML.out]; exact hlt)] at this
          exact this
        · exact (B.out.trans (B1.out.mono B.out.size)).setCell (Nat.le_refl _) _
      case measure => simp [intOf]; omega
    · obtain rfl : k = m.length := by omega
      go_wp2
      go_ret
      have hm := M.out
      have e := toTo_end MM
      rw [ML.out] at e
      rw [e] at hm
      exact ⟨_, rfl, ⟨_, hm⟩, B.out⟩

set_option maxRecDepth 100000 in
set_option maxHeartbeats 800000 in
theorem rowsFrom_calls (v : Value) (m : List (List Int)) (f : Nat) (w : World) (h : RdM w v m) (hn : m.length ≤ 1048576)
    (hl : ∀ i, i < m.length → f ≤ (m.getD i []).length ∧ (m.getD i []).length ≤ 1048576) :
    Calls Tryd.prog 115 #[v, .int .i64 f] w fun e w' => ∃ v', e = .returned v' ∧ Mat w' w.heap.size w'.heap.size v' (dropM m f) ∧ Below w.heap.size w w' := by
  have R := hide h
  have HL := hide hl
  have S : ∃ a n c, v = .slice a n c := by
    obtain ⟨a, cap, rfl, _⟩ := h
    exact ⟨_, _, _, rfl⟩
  obtain ⟨a, k, c, rfl⟩ := S
  clear h hl
  go_enter Tryd.func115, Tryd.ntmps115
  go_wp2_with fail
  refine (eachCut_calls _ m f w.heap.size _ (R.out.below ((Below.refl _ _).alloc (Nat.le_refl _) _)) (World.cell?_alloc_at _ _ _ _ rfl) (by simp) hn HL.out).mono ?_
  rintro e w' ⟨v', rfl, hm, hb⟩
  have M := hide hm
  have B := hide hb
  clear hm hb
  go_wp2
  go_ret
  have h0 : Below w.heap.size w (w.alloc (.cells #[.int .i64 f] 3)) := (Below.refl _ _).alloc (Nat.le_refl _) _
  exact ⟨_, rfl, M.out.wider h0.size (Nat.le_refl _), h0.trans (B.out.mono h0.size)⟩

set_option maxRecDepth 100000 in
set_option maxHeartbeats 800000 in
theorem l2Own_calls (v : Value) (m : List (List Int)) (w : World) (h : RdM w v m) (hn : m.length ≤ 1048576) (hl : ∀ i, i < m.length → (m.getD i []).length ≤ 1048576) :
    Calls Tryd.prog 116 #[v] w fun e w' => ∃ v', e = .returned v' ∧ Mat w' w.heap.size w'.heap.size v' m ∧ Below w.heap.size w w' := by
  have R := hide h
  obtain ⟨a, cap, rfl, _⟩ := h
  have HL := hide hl
  clear hl
  go_enter Tryd.func116, Tryd.ntmps116
  go_wp2
  go_loopw [3, 5, 8] (fun vo _ vi wr => ∃ (k : Nat) (vs : List Value), k ≤ m.length ∧ vi = .int .i64 k ∧ MatV wr w.heap.size wr.heap.size vo vs (m.take k) ∧ Below w.heap.size w wr) (fun _ _ vi _ => m.length - (intOf vi).toNat)
  case atStart =>
    obtain ⟨vs, hv⟩ := Mat.nil w w.heap.size w.heap.size
    exact ⟨0, vs, Nat.zero_le _, rfl, hv, Below.refl _ _⟩
  case round =>
    obtain ⟨k, vs, hk, rfl, hm, hb⟩ := hrel
    have M := hide hm
    have B := hide hb
    clear hm hb
    by_cases hlt : k < m.length
    · have hlt' : (k : Int) < (m.length : Int) := by omega
      obtain ⟨b2, off2, u2, rfl, hc2, hu2⟩ := (R.out.below B.out).row k hlt
      obtain ⟨r, hrr⟩ : ∃ r, r = m.getD k [] := ⟨_, rfl⟩
      rw [← hrr] at hu2
      have hrl : r.length ≤ 1048576 := by rw [hrr]; exact HL.out k hlt
      have HR := hide hrr
      clear hrr
      have RR : Hid (Rd (wr.alloc (.cells #[] 3)) u2 r) := hu2.below ((Below.refl _ _).alloc (Nat.le_refl _) _)
      have OO : Hid (Own (wr.alloc (.cells #[] 3)) wr.heap.size (.slice (some ⟨wr.heap.size, 0, none⟩) 0 0) []) :=
        World.ownsRow_lit wr #[] 0 (Nat.le_refl _) (Nat.zero_le _) (by rfl)
      clear hu2
      go_wp2_with (at_builtin; refine wpList_append_rd rfl (.tmp 13) (.tmp 14) rfl wr.heap.size _ 0 [] r rfl OO.out _ rfl RR.out (by omega) (by simp) ?_)
      intro v1 w1 ho1 hg1
      have hb1 : Below wr.heap.size wr w1 := ((Below.refl _ _).alloc (Nat.le_refl _) _).grown hg1 (by simp) (fun k hk => (OO.out.lt k hk).1)
      obtain ⟨xa, xn, xc, rfl⟩ := ho1.shape
      have ho1' : Own w1 wr.heap.size (.slice xa xn xc) r := by simpa using ho1
      have O1 := hide ho1'
      have B1 := hide hb1
      clear ho1 ho1' hg1 hb1
      go_wp2_with (at_builtin; refine wpList_append_row rfl (.tmp 12) (.tmp 16) rfl w.heap.size wr.heap.size _ vs (m.take k) rfl M.out (B1.out.alloc B1.out.size _) _ r (O1.out.below ((Below.refl _ _).alloc (Nat.le_refl _) _)) (Nat.le_refl _) B.out.size _ rfl (World.cell?_alloc_at _ _ _ _ (by simp)) (by simp; omega) ?_)
      intro v2 w2 hM2 hB2
      have M2 := hide hM2
      have B3 := hide hB2
      clear hM2 hB2
      go_wp2
      go_roundw
      case rel =>
        refine ⟨k + 1, vs ++ [.slice xa xn xc], by omega, by go_num, ?_, B.out.trans B3.out⟩
        have := M2.out
        have e : m.take k ++ [r] = m.take (k + 1) := by
          rw [List.take_succ_eq_append_getElem hlt, HR.out, List.getD_eq_getElem?_getD, List.getElem?_eq_getElem hlt, Option.getD_some]
        rw [e] at this
        exact this
      case measure => simp [intOf]; omega
    · obtain rfl : k = m.length := by omega
      go_wp2
      go_ret
      have hm := M.out
      rw [List.take_of_length_le (Nat.le_refl _)] at hm
      exact ⟨_, rfl, ⟨_, hm⟩, B.out⟩
end Go.Proofs.YtogopakmebiomaaDoor

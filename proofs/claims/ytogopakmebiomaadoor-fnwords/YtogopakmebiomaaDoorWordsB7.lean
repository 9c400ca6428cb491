/-
  Rows copied, from a place on or whole: the program's functions and its model's, call by call. Each contract says what it asks. How many rows are not told by others: the program's RankOf and its model's, at all rows. The program's table of rests must hold its seven numbers where the program's own function is called. A copy into part of a list of the call's own, the world told whole. Each law says what it asks. Rows put behind rows: a copy into part of a list of the call's own, and the program's joinRows. Each contract says what it asks. Rows solved: the program's solveRows, in one call. The contract says what it asks. Inverses: the program's InvertMatrix and its model's, at all rows. The program's table of rests must hold its seven numbers where the program's own function is called. Columns: a list as a column of rows, a column of rows as a list, a matrix times a column: the program's functions and its model's, call by call. Each contract says what it asks.
-/
import Derived.Test.YtogopakmebiomaaDoorWordsB5
import Derived.Test.YtogopakmebiomaaDoorWordsB6
import Derived.Test.YtogopakmebiomaaDoorWordsB2
import Derived.Deep.RegionLaw
namespace Go.Proofs.YtogopakmebiomaaDoor
open Go.RowKit

set_option maxRecDepth 100000 in
set_option maxHeartbeats 800000 in
theorem copyList_calls (v : Value) (xs : List Int) (w : World) (h : Rd w v xs) (hn : xs.length ≤ 1048576) :
    Calls Tryd.prog 90 #[v] w fun e w' => ∃ v', e = .returned v' ∧ Own w' w.heap.size v' xs ∧ Below w.heap.size w w' := by
  have R := hide h
  obtain ⟨a, cap, rfl, h1, h2, h3⟩ := h
  clear h3 h2 h1
  go_enter Tryd.func90, Tryd.ntmps90
  go_wp2_with (at_make; refine wpList_make_ints rfl _ _ rfl w.heap.size _ _ xs.length rfl rfl (by omega) (by omega) (by omega) (Nat.le_refl _) ?_)
  intro w0 hown0 hg0
  have hb0 : Below w.heap.size w w0 := (Below.refl _ _).grown hg0 (Nat.le_refl _) (fun k h => by cases h)
  have O0 := hide hown0
  have B0 := hide hb0
  clear hown0 hg0 hb0
  go_wp2_with (refine wpList_copy_fresh rfl _ _ rfl w.heap.size w.heap.size xs.length (List.replicate xs.length 0) rfl O0.out _ rfl xs (R.out.below B0.out) (Nat.le_refl _) (Nat.le_refl _) (by unfold maxLen; omega) w.heap.size w B0.out (Nat.le_refl _) ?_)
  intro w1 ho hb _
  have O1 := hide ho
  have B1 := hide hb
  clear ho hb
  go_wp2
  go_ret
  exact ⟨_, rfl, by simpa using O1.out, B1.out⟩


theorem rd_cut {w : World} {a : Option Addr} {cap f : Nat} {xs : List Int} (h : Rd w (.slice a xs.length cap) xs) (hf : f ≤ xs.length) (hc : f < cap) :
    Rd w (.slice (Option.map (fun x : Addr => x.add f) a) (xs.length - f) (cap - f)) (xs.drop f) := by
  obtain ⟨a', cap', hv, h1, ⟨h2, h2'⟩, h3⟩ := h
  simp only [Value.slice.injEq] at hv
  obtain ⟨rfl, _, rfl⟩ := hv
  refine ⟨_, cap - f, by rw [List.length_drop], by rw [List.length_drop]; omega, ⟨by omega, fun h => ?_⟩, ?_⟩
  · cases a with
    | none => have := h2' rfl; omega
    | some x => simp at h
  · rcases h3 with h3 | ⟨b, off, rfl, hb, hcell⟩
    · left; rw [h3]; simp
    · right
      have hadd : (⟨b, off, none⟩ : Addr).add f = ⟨b, off + f, none⟩ := by unfold Addr.add; split <;> simp_all
      refine ⟨b, off + f, by simp [hadd], hb, fun i hi => ?_⟩
      rw [List.length_drop] at hi
      have := hcell (f + i) (by omega)
      rw [Nat.add_assoc, this]
      simp [List.getD_eq_getElem?_getD]
set_option maxRecDepth 100000 in
set_option maxHeartbeats 800000 in
theorem rowCut_calls (v : Value) (xs : List Int) (f g : Nat) (w : World) (h : Rd w v xs) (hg : w.cell? ⟨g, 0, none⟩ = some (.int .i64 f)) (hf : f ≤ xs.length) (hl : xs.length ≤ 1048576) :
    Calls Tryd.prog 155 #[v, .pointer (some ⟨g, 0, none⟩)] w fun e w' => ∃ v', e = .returned v' ∧ Own w' w.heap.size v' (xs.drop f) ∧ Below w.heap.size w w' := by
  have R := hide h
  obtain ⟨a, cap, rfl, h1, h2, h3⟩ := h
  clear h3
  have hf1 : (f : Int) ≤ (xs.length : Int) := by omega
  have hf0 : (0 : Int) ≤ (f : Int) := by omega
  by_cases hcf : cap = f
  · subst hcf
    have hR : Rd w (.slice a (xs.length - cap) 0) (xs.drop cap) := by
      have e : xs.drop cap = [] := List.drop_eq_nil_of_le h1
      rw [e, show xs.length - cap = 0 from by omega]
      exact ⟨a, 0, rfl, Nat.le_refl _, ⟨Nat.zero_le _, fun _ => rfl⟩, .inl rfl⟩
    have R2 := hide hR
    have R3 : Hid (Rd w (.slice a 0 0) (xs.drop cap)) := by
      have := hR
      rw [show xs.length - cap = 0 from by omega] at this
      exact this
    have HL := hide hl
    clear hR h2 hl
    go_enter Tryd.func155, Tryd.ntmps155
    go_wp2_with fail
    all_goals
      refine (copyList_calls _ (xs.drop cap) _ (by first | exact R2.out | exact R3.out) (by rw [List.length_drop]; have := HL.out; omega)).mono ?_
      rintro e w1 ⟨v1, rfl, ho, hb⟩
      have O := hide ho
      have B := hide hb
      clear ho hb
      go_wp2
      go_ret
      exact ⟨_, rfl, O.out, B.out⟩
  · have R2 := hide (rd_cut R.out hf (by omega))
    have HL := hide hl
    clear h2 hl
    go_enter Tryd.func155, Tryd.ntmps155
    go_wp2_with fail
    all_goals
      refine (copyList_calls _ (xs.drop f) _ (by first | exact R2.out | omega | (exfalso; omega)) (by rw [List.length_drop]; have := HL.out; omega)).mono ?_
      rintro e w1 ⟨v1, rfl, ho, hb⟩
      have O := hide ho
      have B := hide hb
      clear ho hb
      go_wp2
      go_ret
      exact ⟨_, rfl, O.out, B.out⟩

def dropM (m : List (List Int)) (f : Nat) : List (List Int) := m.map fun r => r.drop f
theorem dropM_length (m : List (List Int)) (f : Nat) : (dropM m f).length = m.length := by simp [dropM]
theorem dropM_get (m : List (List Int)) (f k : Nat) (h : k < m.length) : (dropM m f).getD k [] = (m.getD k []).drop f := by simp [dropM, List.getD_eq_getElem?_getD, h]

set_option maxRecDepth 100000 in
set_option maxHeartbeats 800000 in
theorem eachCut_calls (v : Value) (m : List (List Int)) (f g : Nat) (w : World) (h : RdM w v m) (hgc : w.cell? ⟨g, 0, none⟩ = some (.int .i64 f)) (hgl : g < w.heap.size) (hn : m.length ≤ 1048576)
    (hl : ∀ i, i < m.length → f ≤ (m.getD i []).length ∧ (m.getD i []).length ≤ 1048576) :
    Calls Tryd.prog 154 #[v, .func (.func 155) #[] #[.pointer (some ⟨g, 0, none⟩)]] w fun e w' => ∃ v', e = .returned v' ∧ Mat w' w.heap.size w'.heap.size v' (dropM m f) ∧ Below w.heap.size w w' := by
  have R := hide h
  obtain ⟨a, cap, rfl, _⟩ := h
  have HL := hide hl
  clear hl
  obtain ⟨MM, hM⟩ : ∃ M, M = dropM m f := ⟨_, rfl⟩
  rw [← hM]
  have hMl : MM.length = m.length := by rw [hM, dropM_length]
  have hMg : ∀ k, k < m.length → MM.getD k [] = (m.getD k []).drop f := fun k hk => by rw [hM, dropM_get _ _ _ hk]
  have ML := hide hMl
  have MG := hide hMg
  have GC := hide hgc
  clear hM hMl hMg hgc
  go_enter Tryd.func154, Tryd.ntmps154
  go_wp2_with (at_make; refine wpList_make_rows rfl _ _ rfl _ _ m.length rfl rfl (by omega) (by omega) hn ?_)
  intro w0 hm0 hg0
  have M0 := hide hm0
  have G0 := hide hg0
  clear hm0 hg0
  go_wp2
  go_loopw [6, 7, 13] (fun _ _ vi wr => ∃ (k : Nat) (vs : List Value), k ≤ m.length ∧ vi = .int .i64 k ∧ MatV wr w.heap.size wr.heap.size (.slice (some ⟨w.heap.size, 0, none⟩) m.length m.length) vs (toTo MM k) ∧ Below w.heap.size w wr) (fun _ _ vi _ => m.length - (intOf vi).toNat)
  case atStart =>
    refine ⟨0, List.replicate m.length nilRow, Nat.zero_le _, rfl, ?_, (Below.refl _ _).grown G0.out (Nat.le_refl _) (fun k h => by cases h)⟩
    rw [toTo_zero, ML.out]
    exact M0.out
  case round =>
    obtain ⟨k, vs, hk, rfl, hm, hb⟩ := hrel
    have M := hide hm
    have B := hide hb
    clear hm hb
    by_cases hlt : k < m.length
    · have hlt' : (k : Int) < (m.length : Int) := by omega
      obtain ⟨b, off, u, rfl, hc1, hu⟩ := (R.out.below B.out).row k hlt
      have U := hide hu
      clear hu
      have hgc2 : wr.cell? ⟨g, 0, none⟩ = some (.int .i64 f) := (B.out.cell (p := ⟨g, 0, none⟩) hgl).trans GC.out
      have GC2 := hide hgc2
      clear hgc2
      go_wp2_with fail
      refine (rowCut_calls u _ f g _ U.out GC2.out (HL.out k hlt).1 (HL.out k hlt).2).mono ?_
      rintro e w1 ⟨x, rfl, hx, hb1⟩
      obtain ⟨xa, xn, xc, rfl⟩ := hx.shape
      have hkl : k < (toTo MM k).length := by rw [toTo_length _ k (by rw [ML.out]; exact hk), ML.out]; exact hlt
      have hM1 := M.out.below hb1
      have hc2 : w1.frozen? ⟨w.heap.size, k, none⟩ = false := World.ownsRow.frozenAt (by have := hM1.head; rwa [← hM1.lenEq] at this) k
      have hc3 := hM1.cell k hkl
      have L := hide (M.out.lay k hkl hb1 _ _ hx M.out.sizeLo (Nat.le_refl _))
      have B1 := hide hb1
      clear hM1 hx hb1
      go_wp2
      go_roundw
      case rel =>
        refine ⟨k + 1, vs.set k (.slice xa xn xc), by omega, by go_num, ?_, ?_⟩
        · have := L.out.1
          rw [← MG.out k hlt, toTo_step _ k (by rw [ML.out]; exact hlt)] at this
          exact this
        · exact (B.out.trans (B1.out.mono B.out.size)).setCell (Nat.le_refl _) _
      case measure => simp [intOf]; omega
    · obtain rfl : k = m.length := by omega
      go_wp2
      go_ret
      have hm := M.out
      have e := toTo_end MM
      rw [ML.out] at e
      rw [e] at hm
      exact ⟨_, rfl, ⟨_, hm⟩, B.out⟩

set_option maxRecDepth 100000 in
set_option maxHeartbeats 800000 in
theorem rowsFrom_calls (v : Value) (m : List (List Int)) (f : Nat) (w : World) (h : RdM w v m) (hn : m.length ≤ 1048576)
    (hl : ∀ i, i < m.length → f ≤ (m.getD i []).length ∧ (m.getD i []).length ≤ 1048576) :
    Calls Tryd.prog 115 #[v, .int .i64 f] w fun e w' => ∃ v', e = .returned v' ∧ Mat w' w.heap.size w'.heap.size v' (dropM m f) ∧ Below w.heap.size w w' := by
  have R := hide h
  have HL := hide hl
  have S : ∃ a n c, v = .slice a n c := by
    obtain ⟨a, cap, rfl, _⟩ := h
    exact ⟨_, _, _, rfl⟩
  obtain ⟨a, k, c, rfl⟩ := S
  clear h hl
  go_enter Tryd.func115, Tryd.ntmps115
  go_wp2_with fail
  refine (eachCut_calls _ m f w.heap.size _ (R.out.below ((Below.refl _ _).alloc (Nat.le_refl _) _)) (World.cell?_alloc_at _ _ _ _ rfl) (by simp) hn HL.out).mono ?_
  rintro e w' ⟨v', rfl, hm, hb⟩
  have M := hide hm
  have B := hide hb
  clear hm hb
  go_wp2
  go_ret
  have h0 : Below w.heap.size w (w.alloc (.cells #[.int .i64 f] 3)) := (Below.refl _ _).alloc (Nat.le_refl _) _
  exact ⟨_, rfl, M.out.wider h0.size (Nat.le_refl _), h0.trans (B.out.mono h0.size)⟩

set_option maxRecDepth 100000 in
set_option maxHeartbeats 800000 in
theorem l2Own_calls (v : Value) (m : List (List Int)) (w : World) (h : RdM w v m) (hn : m.length ≤ 1048576) (hl : ∀ i, i < m.length → (m.getD i []).length ≤ 1048576) :
    Calls Tryd.prog 116 #[v] w fun e w' => ∃ v', e = .returned v' ∧ Mat w' w.heap.size w'.heap.size v' m ∧ Below w.heap.size w w' := by
  have R := hide h
  obtain ⟨a, cap, rfl, _⟩ := h
  have HL := hide hl
  clear hl
  go_enter Tryd.func116, Tryd.ntmps116
  go_wp2
  go_loopw [3, 5, 8] (fun vo _ vi wr => ∃ (k : Nat) (vs : List Value), k ≤ m.length ∧ vi = .int .i64 k ∧ MatV wr w.heap.size wr.heap.size vo vs (m.take k) ∧ Below w.heap.size w wr) (fun _ _ vi _ => m.length - (intOf vi).toNat)
  case atStart =>
    obtain ⟨vs, hv⟩ := Mat.nil w w.heap.size w.heap.size
    exact ⟨0, vs, Nat.zero_le _, rfl, hv, Below.refl _ _⟩
  case round =>
    obtain ⟨k, vs, hk, rfl, hm, hb⟩ := hrel
    have M := hide hm
    have B := hide hb
    clear hm hb
    by_cases hlt : k < m.length
    · have hlt' : (k : Int) < (m.length : Int) := by omega
      obtain ⟨b2, off2, u2, rfl, hc2, hu2⟩ := (R.out.below B.out).row k hlt
      obtain ⟨r, hrr⟩ : ∃ r, r = m.getD k [] := ⟨_, rfl⟩
      rw [← hrr] at hu2
      have hrl : r.length ≤ 1048576 := by rw [hrr]; exact HL.out k hlt
      have HR := hide hrr
      clear hrr
      have RR : Hid (Rd (wr.alloc (.cells #[] 3)) u2 r) := hu2.below ((Below.refl _ _).alloc (Nat.le_refl _) _)
      have OO : Hid (Own (wr.alloc (.cells #[] 3)) wr.heap.size (.slice (some ⟨wr.heap.size, 0, none⟩) 0 0) []) :=
        World.ownsRow_lit wr #[] 0 (Nat.le_refl _) (Nat.zero_le _) (by rfl)
      clear hu2
      go_wp2_with (at_builtin; refine wpList_append_rd rfl (.tmp 13) (.tmp 14) rfl wr.heap.size _ 0 [] r rfl OO.out _ rfl RR.out (by omega) (by simp) ?_)
      intro v1 w1 ho1 hg1
      have hb1 : Below wr.heap.size wr w1 := ((Below.refl _ _).alloc (Nat.le_refl _) _).grown hg1 (by simp) (fun k hk => (OO.out.lt k hk).1)
      obtain ⟨xa, xn, xc, rfl⟩ := ho1.shape
      have ho1' : Own w1 wr.heap.size (.slice xa xn xc) r := by simpa using ho1
      have O1 := hide ho1'
      have B1 := hide hb1
      clear ho1 ho1' hg1 hb1
      go_wp2_with (at_builtin; refine wpList_append_row rfl (.tmp 12) (.tmp 16) rfl w.heap.size wr.heap.size _ vs (m.take k) rfl M.out (B1.out.alloc B1.out.size _) _ r (O1.out.below ((Below.refl _ _).alloc (Nat.le_refl _) _)) (Nat.le_refl _) B.out.size _ rfl (World.cell?_alloc_at _ _ _ _ (by simp)) (by simp; omega) ?_)
      intro v2 w2 hM2 hB2
      have M2 := hide hM2
      have B3 := hide hB2
      clear hM2 hB2
      go_wp2
      go_roundw
      case rel =>
        refine ⟨k + 1, vs ++ [.slice xa xn xc], by omega, by go_num, ?_, B.out.trans B3.out⟩
        have := M2.out
        have e : m.take k ++ [r] = m.take (k + 1) := by
          rw [List.take_succ_eq_append_getElem hlt, HR.out, List.getD_eq_getElem?_getD, List.getElem?_eq_getElem hlt, Option.getD_some]
        rw [e] at this
        exact this
      case measure => simp [intOf]; omega
    · obtain rfl : k = m.length := by omega
      go_wp2
      go_ret
      have hm := M.out
      rw [List.take_of_length_le (Nat.le_refl _)] at hm
      exact ⟨_, rfl, ⟨_, hm⟩, B.out⟩
end Go.Proofs.YtogopakmebiomaaDoor

namespace Go.Proofs.YtogopakmebiomaaDoor
open Go.RowKit
open Gf (ci nat ciM swapM pf piv Sh AllLt clr redM)

theorem ciM_nat {m : List (List Int)} (h : goodM m = true) : ciM (m.map nat) = m := by
  unfold ciM
  rw [List.map_map]
  conv => rhs; rw [← List.map_id m]
  apply List.map_congr_left
  intro r hr
  simp only [goodM, Bool.and_eq_true] at h
  have := List.all_eq_true.1 h.2.2.2 r hr
  exact Gf.ci_nat this
theorem sh_nat {m : List (List Int)} (h : goodM m = true) : Sh (m.map nat) m.length (m.getD 0 []).length := by
  have f := (goodM_rows h).2.2.2.2
  refine ⟨by simp, fun i hi => ?_, fun i hi => ?_⟩
  · rw [natM_get, Gf.nat_length]; exact (f i hi).1
  · rw [natM_get]; exact Gf.nat_lt (f i hi).2
theorem dropM_zero (m : List (List Int)) : dropM m 0 = m := by simp [dropM]
def rankR (m : List (List Int)) : Int × Bool := if goodM m = true then (((redM (m.map nat) (m.getD 0 []).length).1 : Nat), true) else (0, false)

end Go.Proofs.YtogopakmebiomaaDoor

namespace Go.Proofs.YtogopakmebiomaaDoor
open Go.RowKit

def spl (ws : List Int) (off : Nat) (zs : List Int) : List Int := ws.take off ++ (zs ++ ws.drop (off + zs.length))
theorem spl_length (ws : List Int) (off : Nat) (zs : List Int) (h : off + zs.length ≤ ws.length) : (spl ws off zs).length = ws.length := by simp [spl]; omega
theorem own_setRow {w : World} {base g N off : Nat} {ws zs : List Int} (ho : Own w base (.slice (some ⟨g, 0, none⟩) N N) ws) (hfit : off + zs.length ≤ ws.length) :
    Own (w.setRow g ((ws.map (Value.int .i64)).toArray.toList.take off ++ (zs.map (Value.int .i64) ++ (ws.map (Value.int .i64)).toArray.toList.drop (off + (zs.map (Value.int .i64)).length))).toArray) base (.slice (some ⟨g, 0, none⟩) N N) (spl ws off zs) ∧
      w.grownBy (w.setRow g ((ws.map (Value.int .i64)).toArray.toList.take off ++ (zs.map (Value.int .i64) ++ (ws.map (Value.int .i64)).toArray.toList.drop (off + (zs.map (Value.int .i64)).length))).toArray) (some g) := by
  have hN : ws.length = N := by
    rcases ho.2 with ⟨h', _⟩ | ⟨g', cap', cur, h', _⟩
    · simp at h'
    · simp at h'; exact h'.2.1.symm
  have hbg : base ≤ g := (World.ownsRow.lt ho g rfl).1
  have hmx : N ≤ maxLen := by
    rcases ho.2 with ⟨h', _⟩ | ⟨g', cap', cur, h', _, _, _, hm, _⟩
    · simp at h'
    · simp at h'; omega
  have hg := own_full (by unfold Own at ho; rwa [hN] at ho)
  have e : ((ws.map (Value.int .i64)).toArray.toList.take off ++ (zs.map (Value.int .i64) ++ (ws.map (Value.int .i64)).toArray.toList.drop (off + (zs.map (Value.int .i64)).length))) = (spl ws off zs).map (Value.int .i64) := by simp [spl]
  rw [e]
  have hl : (spl ws off zs).length = N := by rw [spl_length _ _ _ hfit, hN]
  have := own_of_block (base := base) (setRow_heap w g _ ((spl ws off zs).map (Value.int .i64)).toArray 3 _ hg) hbg (by rw [hl]; exact hmx)
  rw [hl] at this
  exact ⟨this, rfl, rfl, rfl, by simp [World.setRow], fun k _ hk => setRow_other w g k _ (fun e => hk (by simp [e]))⟩
theorem rd_cells {w : World} {sp : Option Addr} {sLen sCap : Nat} {zs : List Int} (hr : Rd w (.slice sp sLen sCap) zs) (h0 : 0 < zs.length) : sLen = zs.length ∧ ∃ ad, sp = some ad ∧ ∀ j y, (zs.map (Value.int .i64))[j]? = some y → w.cell? (ad.add j) = some y := by
  obtain ⟨a', cap', hv, _, _, h3⟩ := hr
  simp only [Value.slice.injEq] at hv
  obtain ⟨rfl, rfl, rfl⟩ := hv
  refine ⟨rfl, ?_⟩
  rcases h3 with h3 | ⟨b, off, rfl, _, hc⟩
  · rw [h3] at h0; simp at h0
  · refine ⟨_, rfl, fun j y hj => ?_⟩
    have hjl : j < zs.length := by simpa using (List.getElem?_eq_some_iff.1 hj).1
    have hadd : (⟨b, off, none⟩ : Addr).add j = ⟨b, off + j, none⟩ := by unfold Addr.add; split <;> simp_all
    rw [hadd, hc j hjl]
    rw [List.getElem?_map, List.getElem?_eq_getElem hjl] at hj
    simp only [Option.map_some, Option.some.injEq] at hj
    rw [← hj, List.getD_eq_getElem?_getD, List.getElem?_eq_getElem hjl, Option.getD_some]
/-- 'copy(out[off:], p)', out a list of the call's own, p not longer than what is there. -/
theorem wpList_copy_at {w : World} {ops : Array Oper} {rest : List Oper} {o : Oper} {a : Act} {Q : Exit → Act → World → Prop} (hgd : o.guard = none) (d s : Operand)
    (ho : o.op = .call { callee := .builtin .copy, args := #[d, s], argTypes := #[22, 22] })
    (base g N off dLen dCap sLen sCap : Nat) (sp : Option Addr) (ws zs : List Int) (hd : a.eval d = .slice (some ⟨g, off, none⟩) dLen dCap) (hs : a.eval s = .slice sp sLen sCap)
    (hown : Own w base (.slice (some ⟨g, 0, none⟩) N N) ws) (hr : Rd w (.slice sp sLen sCap) zs) (h0 : 0 < zs.length) (hdl : zs.length ≤ dLen) (hfit : off + zs.length ≤ ws.length)
    (h : ∀ w', Own w' base (.slice (some ⟨g, 0, none⟩) N N) (spl ws off zs) → w.grownBy w' (some g) → wpList Tryd.prog ops Q rest (a.put o.dst (goInt zs.length)) w') : wpList Tryd.prog ops Q (o :: rest) a w := by
  obtain ⟨rfl, ad, rfl, hc⟩ := rd_cells hr h0
  have hN : ws.length = N := by
    rcases hown.2 with ⟨h', _⟩ | ⟨g', cap', cur, h', _⟩
    · simp at h'
    · simp at h'; exact h'.2.1.symm
  have hg := own_full (by unfold Own at hown; rwa [hN] at hown)
  refine wpList_copy_own (w := w) hgd d s 22 22 ho 3 Tryd.underlying22 infoSize g off dLen dCap ad zs.length sCap hd hs (ws.map (Value.int .i64)).toArray 3 hg (zs.map (Value.int .i64)) (by rw [List.length_map]; exact (Nat.min_eq_left hdl).symm) hc (by simp; omega) (ints_oneCell _ _) ?_
  obtain ⟨h1, h2⟩ := own_setRow hown hfit
  have := h _ h1 h2
  simp only [List.length_map] at this ⊢
  exact this
theorem step_copy_at {w : World} {ops : Array Oper} {o : Oper} {a : Act} {K : Act → World → Prop} {Q : Exit → Act → World → Prop} {E : Prop} (hgd : o.guard = none) (d s : Operand)
    (ho : o.op = .call { callee := .builtin .copy, args := #[d, s], argTypes := #[22, 22] })
    (base g N off dLen dCap sLen sCap : Nat) (sp : Option Addr) (ws zs : List Int) (hd : a.eval d = .slice (some ⟨g, off, none⟩) dLen dCap) (hs : a.eval s = .slice sp sLen sCap)
    (hown : Own w base (.slice (some ⟨g, 0, none⟩) N N) ws) (hr : Rd w (.slice sp sLen sCap) zs) (h0 : 0 < zs.length) (hdl : zs.length ≤ dLen) (hfit : off + zs.length ≤ ws.length)
    (h : ∀ w', Own w' base (.slice (some ⟨g, 0, none⟩) N N) (spl ws off zs) → w.grownBy w' (some g) → K (a.put o.dst (goInt zs.length)) w') :
    if Region.wanted o (yielded ops a.tmps) = true then Oper.wp Tryd.prog o a w K Q else E := by
  have hw : Region.wanted o (yielded ops a.tmps) = true := by simp [Region.wanted, hgd]
  rw [if_pos hw]
  obtain ⟨rfl, ad, rfl, hc⟩ := rd_cells hr h0
  have hN : ws.length = N := by
    rcases hown.2 with ⟨h', _⟩ | ⟨g', cap', cur, h', _⟩
    · simp at h'
    · simp at h'; exact h'.2.1.symm
  have hg := own_full (by unfold Own at hown; rwa [hN] at hown)
  have hrun := run_copy_row (P := Tryd.prog) w 22 22 o.type 3 g off dLen dCap ad zs.length sCap (ws.map (Value.int .i64)).toArray 3 (zs.map (Value.int .i64)) Tryd.underlying22 infoSize hg (by rw [List.length_map]; exact (Nat.min_eq_left hdl).symm) hc (by simp; omega) (ints_oneCell _ _)
  obtain ⟨h1, h2⟩ := own_setRow hown hfit
  have := h _ h1 h2
  unfold Oper.wp
  simp [execOp, ho, resolve, invoke, builtin, hd, hs, hrun, Result.andThen]
  simp at this
  exact this
end Go.Proofs.YtogopakmebiomaaDoor

namespace Go.Proofs.YtogopakmebiomaaDoor
open Go.RowKit

def joinI (l r : List (List Int)) : List (List Int) := (List.range l.length).map fun i => l.getD i [] ++ r.getD i []
theorem joinI_length (l r : List (List Int)) : (joinI l r).length = l.length := by simp [joinI]
theorem joinI_get (l r : List (List Int)) (i : Nat) (h : i < l.length) : (joinI l r).getD i [] = l.getD i [] ++ r.getD i [] := by simp [joinI, h]
theorem spl_two (x y : List Int) (c d : Nat) (hx : x.length = c) (hy : y.length = d) : spl (spl (List.replicate (c + d) 0) 0 x) c y = x ++ y := by
  subst hx hy
  simp [spl]

set_option maxRecDepth 100000 in
set_option maxHeartbeats 1600000 in
theorem joinRows_calls (lv rv : Value) (l r : List (List Int)) (n c d : Nat) (w : World) (hl : RdM w lv l) (hr : RdM w rv r) (hln : l.length = n) (hrn : r.length = n) (hc : ∀ i, i < n → (l.getD i []).length = c) (hd : ∀ i, i < n → (r.getD i []).length = d)
    (hn8 : n ≤ 1048576) (hc1 : 1 ≤ c) (hc8 : c ≤ 4096) (hd1 : 1 ≤ d) (hd8 : d ≤ 4096) :
    Calls Tryd.prog 143 #[lv, rv] w fun e w' => ∃ v', e = .returned v' ∧ Mat w' w.heap.size w'.heap.size v' (joinI l r) ∧ Below w.heap.size w w' := by
  have RL := hide hl
  have RR := hide hr
  obtain ⟨la, lcap, rfl, _⟩ := hl
  obtain ⟨ra, rcap, rfl, _⟩ := hr
  have HC := hide hc
  have HD := hide hd
  obtain ⟨J, hJ⟩ : ∃ J, J = joinI l r := ⟨_, rfl⟩
  rw [← hJ]
  have hJl : J.length = n := by rw [hJ, joinI_length, hln]
  have hJg : ∀ k, k < n → J.getD k [] = l.getD k [] ++ r.getD k [] := fun k hk => by rw [hJ, joinI_get _ _ _ (by rw [hln]; exact hk)]
  have JL := hide hJl
  have JG := hide hJg
  have LN := hide hln
  have RN := hide hrn
  have hln' : l.length = n := hln
  clear hc hd hJ hJl hJg
  rw [hln, hrn]
  clear hln hrn hln'
  go_enter Tryd.func143, Tryd.ntmps143
  go_wp2_with (at_make; refine wpList_make_rows rfl _ _ rfl _ _ n rfl rfl (by omega) (by omega) hn8 ?_)
  intro w0 hm0 hg0
  have M0 := hide hm0
  have G0 := hide hg0
  clear hm0 hg0
  go_wp2
  go_loopw [6, 7, 13] (fun _ _ vi wr => ∃ (k : Nat) (vs : List Value), k ≤ n ∧ vi = .int .i64 k ∧ MatV wr w.heap.size wr.heap.size (.slice (some ⟨w.heap.size, 0, none⟩) n n) vs (toTo J k) ∧ Below w.heap.size w wr) (fun _ _ vi _ => n - (intOf vi).toNat)
  case atStart =>
    refine ⟨0, List.replicate n nilRow, Nat.zero_le _, rfl, ?_, (Below.refl _ _).grown G0.out (Nat.le_refl _) (fun k h => by cases h)⟩
    rw [toTo_zero, JL.out]
    exact M0.out
  case round =>
    obtain ⟨k, vs, hk, rfl, hm, hb⟩ := hrel
    have M := hide hm
    have B := hide hb
    clear hm hb
    by_cases hlt : k < n
    · have hlt' : (k : Int) < (n : Int) := by omega
      have rl := RL.out
      have rr := RR.out
      rw [LN.out] at rl
      rw [RN.out] at rr
      obtain ⟨lb, loff, lu, rfl, hlb, hlc, hlu⟩ := rl.rowAt k (by rw [LN.out]; exact hlt)
      obtain ⟨rb, roff, ru, rfl, hrb, hrc, hru⟩ := rr.rowAt k (by rw [RN.out]; exact hlt)
      clear rl rr
      obtain ⟨x, hx⟩ : ∃ x, x = l.getD k [] := ⟨_, rfl⟩
      obtain ⟨y, hy⟩ : ∃ y, y = r.getD k [] := ⟨_, rfl⟩
      have hxl : x.length = c := by rw [hx]; exact HC.out k hlt
      have hyl : y.length = d := by rw [hy]; exact HD.out k hlt
      rw [← hx] at hlu
      rw [← hy] at hru
      have hjg := JG.out k hlt
      rw [← hx, ← hy] at hjg
      have JK := hide hjg
      have LU := hide hlu
      have RU := hide hru
      obtain ⟨lua, luc, hlv, _⟩ := hlu
      obtain ⟨rua, ruc, hrv, _⟩ := hru
      rw [hxl] at hlv
      rw [hyl] at hrv
      subst hlv hrv
      have XL := hide hxl
      have YL := hide hyl
      have hlc0 : wr.cell? ⟨lb, loff + k, none⟩ = _ := (B.out.cell (p := ⟨lb, loff + k, none⟩) hlb).trans hlc
      have hrc0 : wr.cell? ⟨rb, roff + k, none⟩ = _ := (B.out.cell (p := ⟨rb, roff + k, none⟩) hrb).trans hrc
      clear hx hy hxl hyl hjg
      go_wp2_with (at_make; refine wpList_make_ints rfl _ _ rfl wr.heap.size _ _ (c + d) rfl rfl (by omega) (by omega) (by omega) (Nat.le_refl _) ?_)
      intro w1 hx hg1
      have hb1 : Below wr.heap.size wr w1 := (Below.refl _ _).grown hg1 (Nat.le_refl _) (fun k h => by cases h)
      have hkl : k < (toTo J k).length := by rw [toTo_length _ k (by rw [JL.out]; exact hk), JL.out]; exact hlt
      have hM1 := M.out.below hb1
      have hc2 : w1.frozen? ⟨w.heap.size, k, none⟩ = false := World.ownsRow.frozenAt (by have := hM1.head; rwa [← hM1.lenEq] at this) k
      have hc3 := hM1.cell k hkl
      have L := M.out.lay k hkl hb1 _ _ hx M.out.sizeLo (Nat.le_refl _)
      have hvl : k < vs.length := by rw [M.out.len]; exact hkl
      have hcell2 := L.1.cell k (by rw [List.length_set]; exact hkl)
      rw [getD_set _ _ _ _ _ hvl, if_pos rfl] at hcell2
      have hO2 := L.1.row k (by rw [List.length_set]; exact hkl)
      rw [getD_set _ _ _ _ _ hvl, if_pos rfl, getD_set _ _ _ _ _ hkl, if_pos rfl] at hO2
      have BW := hide ((B.out.trans (hb1.mono B.out.size)).setCell (p := ⟨w.heap.size, k, none⟩) (Nat.le_refl _) (.slice (some ⟨wr.heap.size, 0, none⟩) (c + d) (c + d)))
      have LY := hide L
      have O2 := hide hO2
      have VL := hide hvl
      have KL := hide hkl
      have hg0 : w.heap.size ≤ wr.heap.size := B.out.size
      have hcell3 := hcell2
      have CL2 := hide hcell2
      have hlc2 : (w1.setCell ⟨w.heap.size, k, none⟩ (.slice (some ⟨wr.heap.size, 0, none⟩) (c + d) (c + d))).cell? ⟨lb, loff + k, none⟩ = _ := (BW.out.cell (p := ⟨lb, loff + k, none⟩) hlb).trans hlc
      have hrc2 : (w1.setCell ⟨w.heap.size, k, none⟩ (.slice (some ⟨wr.heap.size, 0, none⟩) (c + d) (c + d))).cell? ⟨rb, roff + k, none⟩ = _ := (BW.out.cell (p := ⟨rb, roff + k, none⟩) hrb).trans hrc
      clear hx hg1 hb1 hM1 L hO2 hvl hcell3
      go_wp2_with (refine wpList_copy_at rfl (.tmp 33) (.tmp 34) rfl w.heap.size wr.heap.size (c + d) 0 (c + d) (c + d) c luc lua (List.replicate (c + d) 0) x rfl rfl O2.out (LU.out.below BW.out) (by rw [XL.out]; omega) (by rw [XL.out]; omega) (by rw [XL.out, List.length_replicate]; omega) ?_)
      intro w3 hO3 hg3
      have hM3 := LY.out.1.write k (by rw [List.length_set]; exact KL.out) _ (by rw [getD_set _ _ _ _ _ VL.out, if_pos rfl]; exact hO3) (by rw [getD_set _ _ _ _ _ VL.out, if_pos rfl]; exact hg3)
      rw [List.set_set] at hM3
      have hB3 : Below w.heap.size w w3 := BW.out.grown hg3 BW.out.size (fun k hk => by cases hk; exact hg0)
      have M3 := hide hM3
      have B3 := hide hB3
      have O3 := hide hO3
      have hrc3 : w3.cell? ⟨rb, roff + k, none⟩ = _ := (hB3.cell (p := ⟨rb, roff + k, none⟩) hrb).trans hrc
      have hcell4 := hM3.cell k (by rw [List.length_set]; exact KL.out)
      rw [getD_set _ _ _ _ _ VL.out, if_pos rfl] at hcell4
      have RU3 : Hid (Rd w3.drew (.slice rua d ruc) y) := (RU.out.below hB3).below (below_drew' (Below.refl _ _))
      have O3d : Hid (Own w3.drew w.heap.size (.slice (some ⟨wr.heap.size, 0, none⟩) (c + d) (c + d)) (spl (List.replicate (c + d) 0) 0 x)) := hO3.drew
      have i0 : (0 : Int) ≤ (k : Int) := by omega
      have i1 : (0 : Int) ≤ (c : Int) := by omega
      have i2 : (c : Int) ≤ ((c + d : Nat) : Int) := by omega
      have i3 : ¬ (c + d = c) := by omega
      have i4 : c + d - c = d := by omega
      have i5 : ¬ (d = 0) := by omega
      have i6 : (c : Int) ≤ (c : Int) + (d : Int) := by omega
      have Z3 := hide hg3.size
      clear hM3 hB3 hO3 hg3
      go_wp2
      go_region_law (refine step_copy_at rfl (.tmp 42) (.tmp 46) rfl w.heap.size wr.heap.size (c + d) c d d d ruc rua (spl (List.replicate (c + d) 0) 0 x) y (by simp [Act.eval, Act.put]) (by simp [Act.eval, Act.put]) O3d.out RU3.out (by rw [YL.out]; omega) (by rw [YL.out]; omega) (by rw [YL.out, spl_length _ _ _ (by rw [XL.out, List.length_replicate]; omega), List.length_replicate]; omega) ?_; intro w4 hO4 hg4)
      all_goals
        have hM4 := M3.out.write k (by rw [List.length_set]; exact KL.out) _ (by rw [getD_set _ _ _ _ _ VL.out, if_pos rfl]; exact hO4) (by rw [getD_set _ _ _ _ _ VL.out, if_pos rfl]; exact ⟨hg4.os, hg4.tape, hg4.output, hg4.size, hg4.block⟩)
        rw [List.set_set, spl_two x y c d XL.out YL.out, ← JK.out, toTo_step _ k (by rw [JL.out]; exact hlt)] at hM4
        have hB4 : Below w.heap.size w w4 := (below_drew' B3.out).grown hg4 B3.out.size (fun k hk => by cases hk; exact hg0)
        have M4 := hide hM4
        have B4 := hide hB4
        have Z4 := hide hg4.size
        clear hM4 hB4 hO4 hg4
        go_wp2
        go_roundw
        case rel => exact ⟨k + 1, _, by omega, by go_num, M4.out.wider (Nat.le_refl _) (Nat.le_trans Z3.out Z4.out), B4.out⟩
        case measure => simp [intOf]; omega
    · obtain rfl : k = n := by omega
      go_wp2
      go_ret
      have hm := M.out
      have e := toTo_end J
      rw [JL.out] at e
      rw [e] at hm
      exact ⟨_, rfl, ⟨_, hm⟩, B.out⟩
end Go.Proofs.YtogopakmebiomaaDoor

namespace Go.Proofs.YtogopakmebiomaaDoor
open Go.RowKit
open Gf (ci nat ciM Sh AllLt redM joinN invTo solN)

theorem joinI_ciM (M R : List (List Nat)) : joinI (ciM M) (ciM R) = ciM (joinN M R) := by
  unfold joinI Gf.joinN
  rw [Gf.ciM_length]
  unfold ciM
  rw [List.map_map]
  apply List.map_congr_left
  intro i _
  have e1 := Gf.ciM_get M i
  have e2 := Gf.ciM_get R i
  unfold ciM at e1 e2
  rw [e1, e2]
  simp [ci]
theorem drop_join {A B : List (List Nat)} {n c d : Nat} (ha : Sh A n c) (hb : Sh B n d) : dropM (ciM (joinN A B)) c = ciM B := by
  apply Gf.ext_getD []
  · rw [dropM_length, Gf.ciM_length, Gf.ciM_length, Gf.joinN_length, ha.len, hb.len]
  · intro i hi
    rw [dropM_length, Gf.ciM_length, Gf.joinN_length] at hi
    rw [dropM_get _ _ _ (by rw [Gf.ciM_length, Gf.joinN_length]; exact hi), Gf.ciM_get, Gf.ciM_get, Gf.joinN_get _ _ _ hi]
    rw [ha.len] at hi
    unfold Gf.ci
    rw [List.map_append, List.drop_append_of_le_length (by rw [List.length_map, ha.row i hi]; exact Nat.le_refl _), List.drop_eq_nil_of_le (by rw [List.length_map, ha.row i hi]; exact Nat.le_refl _), List.nil_append]

set_option maxRecDepth 100000 in
set_option maxHeartbeats 1600000 in
theorem solveRows_calls (mv rv : Value) (M R : List (List Nat)) (n d : Nat) (w : World) (hT : Gf.Tab w) (hm : RdM w mv (ciM M)) (hr : RdM w rv (ciM R)) (sm : Sh M n n) (sr : Sh R n d) (h1 : 1 ≤ n) (hn : n ≤ 4096) (hd1 : 1 ≤ d) (hd : d ≤ 4096) :
    Calls Tryd.prog 110 #[mv, rv] w fun e w' => ∃ v', e = .returned (.tuple #[v', .bool (solN M R).2]) ∧ Mat w' w.heap.size w'.heap.size v' (ciM (solN M R).1) ∧ Below w.heap.size w w' := by
  have RM := hide hm
  have RR := hide hr
  have T := hide hT
  have SM := hide sm
  have SR := hide sr
  have ml := sm.len
  obtain ⟨ma, mcap, hmv, _⟩ := hm
  rw [Gf.ciM_length, ml] at hmv
  subst hmv
  obtain ⟨J, hJ⟩ : ∃ J, J = joinN M R := ⟨_, rfl⟩
  have sj : Sh J n (n + d) := by rw [hJ]; exact sm.join sr
  have SJ := hide sj
  have JE : Hid (joinI (ciM M) (ciM R) = ciM J) := by rw [hJ]; exact joinI_ciM M R
  have HJ := hide hJ
  have P0 := hide (Gf.tab_pos hT)
  obtain ⟨s, hs⟩ : ∃ s, s = solN M R := ⟨_, rfl⟩
  rw [← hs]
  have HS := hide hs
  clear hT hr sm sr ml hJ sj hs
  go_enter Tryd.func110, Tryd.ntmps110
  go_wp2_with fail
  refine (joinRows_calls _ _ (ciM M) (ciM R) n n d _ RM.out RR.out (by rw [Gf.ciM_length, SM.out.len]) (by rw [Gf.ciM_length, SR.out.len]) (fun i hi => by rw [Gf.ciM_get, Gf.ci_length, SM.out.row i hi]) (fun i hi => by rw [Gf.ciM_get, Gf.ci_length, SR.out.row i hi]) (by omega) (by omega) (by omega) (by omega) (by omega)).mono ?_
  rw [JE.out]
  rintro e w1 ⟨v1, rfl, hm1, hb1⟩
  have M1 := hide hm1
  have B1 := hide hb1
  clear hm1 hb1
  go_wp2_with fail
  refine (reduceRows_calls v1 J n (n + d) n w.heap.size w1.heap.size w1 (Gf.Tab.below T.out B1.out) M1.out SJ.out h1 (by omega) (by omega) (by omega) P0.out).mono ?_
  cases hi : invTo M R n with
  | none =>
    have hlt := Gf.red_none SM.out SR.out (Nat.le_refl _) n (Nat.le_refl _) hi
    have hs : s = ([], false) := by rw [HS.out]; exact Gf.solN_no hi (by rw [SM.out.len]; exact Nat.le_refl _)
    have S0 := hide hs
    rw [← HJ.out] at hlt
    obtain ⟨rr, hrr⟩ : ∃ r, r = redM J n := ⟨_, rfl⟩
    rw [← hrr] at hlt ⊢
    clear hi hs hrr
    rintro e w2 ⟨rfl, hm2, hc2⟩
    have BB := hide (Below.thenChg B1.out hc2 (Nat.le_refl _))
    have hlt' : ((rr.1 : Nat) : Int) < (n : Int) := by omega
    clear hm2 hc2
    go_wp2
    go_ret2
    rw [S0.out]
    exact ⟨_, rfl, Mat.nil _ _ _, BB.out⟩
  | some q =>
    have hr := Gf.red_some SM.out SR.out (Nat.le_refl _) n (Nat.le_refl _) q hi
    obtain ⟨s1, s2⟩ := Gf.invTo_sh SM.out SR.out n (Nat.le_refl _) q hi
    have hs : s = (q.2, true) := by rw [HS.out]; unfold Gf.solN; rw [SM.out.len, hi]
    have S0 := hide hs
    rw [← HJ.out] at hr
    rw [hr]
    have S1 := hide s1
    have S2 := hide s2
    clear hi hs hr s1 s2
    simp only []
    rintro e w2 ⟨rfl, hm2, hc2⟩
    have M2 := hide hm2
    have BB := hide (Below.thenChg B1.out hc2 (Nat.le_refl _))
    have hlt' : ¬ ((n : Nat) : Int) < (n : Int) := by omega
    clear hm2 hc2
    go_wp2_with fail
    refine (rowsFrom_calls v1 (ciM (joinN q.1 q.2)) n w2 M2.out.rd (by rw [Gf.ciM_length, Gf.joinN_length, S1.out.len]; omega) (fun i hi => by rw [Gf.ciM_length, Gf.joinN_length, S1.out.len] at hi; rw [Gf.ciM_get, Gf.ci_length, (S1.out.join S2.out).row i hi]; omega)).mono ?_
    rw [drop_join S1.out S2.out]
    rintro e w3 ⟨v3, rfl, hm3, hb3⟩
    have M3 := hide (hm3.wider BB.out.size (Nat.le_refl _))
    have B3 := hide (BB.out.trans (hb3.mono BB.out.size))
    clear hm3 hb3
    go_wp2
    go_ret2
    rw [S0.out]
    exact ⟨_, rfl, M3.out, B3.out⟩
end Go.Proofs.YtogopakmebiomaaDoor

namespace Go.Proofs.YtogopakmebiomaaDoor
open Go.RowKit
open Gf (ci nat ciM Sh AllLt redM joinN invTo solN identN piv clr opM hOf fOf)

def sqOk (m : List (List Int)) : Bool := goodM m && decide (m.length = (m.getD 0 []).length)
def invR (m : List (List Int)) : List (List Int) × Bool := if sqOk m = true then (ciM (solN (m.map nat) (identN m.length)).1, (solN (m.map nat) (identN m.length)).2) else ([], false)
theorem sqOk_facts {m : List (List Int)} (h : sqOk m = true) : goodM m = true ∧ m.length = (m.getD 0 []).length := by
  simp only [sqOk, Bool.and_eq_true, decide_eq_true_eq] at h
  exact h
theorem solN_sh {A S : List (List Nat)} {n c d : Nat} (ha : Sh A n c) (hs : Sh S n d) : (solN A S).1.length ≤ n ∧ ∀ i, i < (solN A S).1.length → ((solN A S).1.getD i []).length = d ∧ AllLt ((solN A S).1.getD i []) := by
  unfold Gf.solN
  rw [ha.len]
  cases e : invTo A S n with
  | none => exact ⟨Nat.zero_le _, fun i hi => by simp at hi⟩
  | some q =>
    have h2 := (Gf.invTo_sh ha hs n (Nat.le_refl _) q e).2
    simp only []
    rw [h2.len]
    exact ⟨Nat.le_refl _, fun i hi => ⟨h2.row i hi, h2.lt i hi⟩⟩
theorem tot_le_of {m : List (List Int)} {d : Nat} (h : ∀ i, i < m.length → (m.getD i []).length ≤ d) : tot m ≤ d * m.length := by
  have : ∀ k, k ≤ m.length → tot (m.take k) ≤ d * k := by
    intro k
    induction k with
    | zero => intro _; simp [tot]
    | succ k ih =>
      intro hk
      rw [tot_take_succ _ k (by omega), Nat.mul_succ]
      have := ih (by omega)
      have := h k (by omega)
      omega
  have := this m.length (Nat.le_refl _)
  rwa [List.take_of_length_le (Nat.le_refl _)] at this
theorem sh_sq {m : List (List Int)} (h : sqOk m = true) : Sh (m.map nat) m.length m.length := by
  obtain ⟨h1, h2⟩ := sqOk_facts h
  have := sh_nat h1
  rwa [← h2] at this
theorem invR_tot (m : List (List Int)) : (invR m).1.length + tot (invR m).1 ≤ 1048576 := by
  unfold invR
  split
  · rename_i h
    have hs := sh_sq h
    obtain ⟨h1, h2⟩ := sqOk_facts h
    have h8 := (goodM_rows h1).2.1
    have f := solN_sh hs (Gf.sh_ident m.length)
    simp only []
    have := tot_le_of (m := ciM (solN (m.map nat) (identN m.length)).1) (d := 8) (fun i hi => by
      rw [Gf.ciM_length] at hi
      rw [Gf.ciM_get, Gf.ci_length, (f.2 i hi).1]; exact h8)
    rw [Gf.ciM_length] at this ⊢
    have := f.1
    omega
  · simp [tot]

set_option maxRecDepth 100000 in
set_option maxHeartbeats 800000 in
theorem isSquare_calls (v : Value) (m : List (List Int)) (w : World) (h : RdM w v m) :
    Calls Tryd.prog 159 #[v] w fun e w' => e = .returned (.bool (sqOk m)) ∧ Below w.heap.size w w' := by
  have R := hide h
  obtain ⟨a, cap, rfl, _⟩ := h
  cases hg : goodM m with
  | false =>
    have e : sqOk m = false := by simp [sqOk, hg]
    rw [e]
    have G := hide hg
    clear hg e
    go_enter Tryd.func159, Tryd.ntmps159
    go_wp2_with fail
    refine (goodMatrix_calls _ m _ R.out).mono ?_
    rw [G.out]
    rintro e w1 ⟨rfl, hb⟩
    have B := hide hb
    clear hb
    go_wp2
    go_ret
    exact ⟨rfl, B.out⟩
  | true =>
    have G := hide hg
    have f1 := (goodM_rows hg).1
    obtain ⟨b, off, u0, rfl, hbl, hcl, hu0⟩ := R.out.rowAt 0 (by omega)
    rw [Nat.add_zero] at hcl
    obtain ⟨c, hc⟩ : ∃ c, c = (m.getD 0 []).length := ⟨_, rfl⟩
    obtain ⟨ua, uc, hu, _⟩ := hu0
    rw [← hc] at hu
    subst hu
    obtain ⟨t, ht⟩ : ∃ t, t = ((m.length : Int) == (c : Int)) := ⟨_, rfl⟩
    have e : sqOk m = t := by
      rw [sqOk, hg, ht, ← hc, Bool.true_and]
      rw [Bool.eq_iff_iff]
      simp only [decide_eq_true_eq, beq_iff_eq]
      omega
    rw [e]
    have hm0 : (0 : Int) < (m.length : Int) := by omega
    have CL := hide hcl
    clear hg e hc hcl
    go_enter Tryd.func159, Tryd.ntmps159
    go_wp2_with fail
    refine (goodMatrix_calls _ m _ R.out).mono ?_
    rw [G.out]
    rintro e w1 ⟨rfl, hb⟩
    have B := hide hb
    have hc1 : w1.cell? ⟨b, off, none⟩ = _ := (hb.cell (p := ⟨b, off, none⟩) hbl).trans CL.out
    have TT := hide ht
    clear hb ht
    go_wp2
    go_ret
    rw [TT.out]
    exact ⟨rfl, B.out⟩

set_option maxRecDepth 100000 in
set_option maxHeartbeats 1600000 in
theorem l2Invert_calls (v : Value) (m : List (List Int)) (M : List (List Nat)) (n : Nat) (w : World) (h : RdM w v m) (hcm : ciM M = m) (hsh : Sh M n n) (h1 : 1 ≤ n) (h8 : n ≤ 8) :
    Calls Tryd.prog 150 #[v] w fun e w' => ∃ v', e = .returned (.tuple #[v', .bool (solN M (identN n)).2]) ∧ Mat w' w.heap.size w'.heap.size v' (ciM (solN M (identN n)).1) ∧ Below w.heap.size w w' := by
  have R := hide h
  obtain ⟨a, cap, hv, _⟩ := h
  have hl : m.length = n := by rw [← hcm, Gf.ciM_length, hsh.len]
  rw [hl] at hv
  subst hv
  have LL : Hid (∀ i, i < m.length → (m.getD i []).length ≤ 1048576) := fun i hi => by
    rw [hl] at hi
    rw [← hcm, Gf.ciM_get, Gf.ci_length, hsh.row i hi]; omega
  obtain ⟨s, hs⟩ : ∃ s, s = solN M (identN n) := ⟨_, rfl⟩
  rw [← hs]
  have CM := hide hcm
  have SH := hide hsh
  have HL := hide hl
  have HS := hide hs
  clear hl hcm hsh hs
  go_enter Tryd.func150, Tryd.ntmps150
  go_wp2_with fail
  refine (l2Own_calls _ m _ R.out (by rw [HL.out]; omega) LL.out).mono ?_
  rintro e w1 ⟨va, rfl, hma, hb1⟩
  rw [← CM.out] at hma
  have MA := hide hma
  have B1 := hide hb1
  clear hma hb1
  go_wp2_with fail
  refine (l2Identity_calls n _ h1 h8).mono ?_
  rintro e w2 ⟨vs, rfl, hms, hb2⟩
  have hma2 := MA.out.below hb2
  rw [← Gf.ciM_ident] at hms
  have B2 := hide (B1.out.trans (hb2.mono B1.out.size))
  obtain ⟨xa, xc, hva⟩ : ∃ a c, va = .slice a n c := by
    obtain ⟨vv, h⟩ := hma2
    obtain ⟨g, cap, hv, _⟩ := h.open (by rw [Gf.ciM_length, SH.out.len]; omega)
    rw [Gf.ciM_length, SH.out.len] at hv
    exact ⟨_, _, hv⟩
  subst hva
  have MA2 := hide hma2
  have MS2 := hide hms
  have hlo : w.heap.size ≤ w1.heap.size := B1.out.size
  clear hma2 hms hb2 MA
  go_wp2
  go_loopw [14] (fun vk wr => ∃ k : Nat, ∃ q : List (List Nat) × List (List Nat), k ≤ n ∧ invTo M (identN n) k = some q ∧ vk = .int .i64 k ∧ Mat wr w.heap.size w1.heap.size (.slice xa n xc) (ciM q.1) ∧ Mat wr w1.heap.size w2.heap.size vs (ciM q.2) ∧ Chg w.heap.size w2.heap.size w2 wr) (fun vk _ => n - (intOf vk).toNat)
  case atStart => exact ⟨0, (M, identN n), Nat.zero_le _, rfl, rfl, MA2.out, MS2.out, Chg.refl _ _ _⟩
  case round =>
    obtain ⟨k, ⟨A, S⟩, hk, hr, rfl, hM, hS, hC⟩ := hrel
    obtain ⟨sa, ss⟩ := Gf.invTo_sh SH.out (Gf.sh_ident n) k hk _ hr
    simp only [] at hM hS sa ss
    have SA := hide sa
    have SS := hide ss
    have HR := hide hr
    have MH := hide hM
    have MS := hide hS
    have C := hide hC
    clear hr sa ss hM hS hC
    by_cases hlt : k < n
    · have hlt' : (k : Int) < (n : Int) := by omega
      go_wp2_with fail
      refine (l2Clear_calls _ vs A S n n n k k w.heap.size w1.heap.size w1.heap.size w2.heap.size _ MH.out MS.out SA.out SS.out hlt hlt (by omega) (by omega) (by omega) (by omega) (Nat.le_refl _)).mono ?_
      obtain ⟨pv, hpv⟩ : ∃ pv, pv = piv A k k := ⟨_, rfl⟩
      rw [← hpv]
      have PV := hide hpv
      rintro e w3 ⟨rfl, hm3, hs3, hc3⟩
      have M3 := hide hm3
      have S3 := hide hs3
      have C3 := hide (C.out.trans hc3)
      clear hm3 hs3 hc3
      cases pv with
      | none =>
        have hnone : invTo M (identN n) (k + 1) = none := by
          rw [Gf.invTo, HR.out]
          simp only []
          rw [← hpv]
        have hs0 : s = ([], false) := by rw [HS.out]; exact Gf.solN_no hnone (by rw [SH.out.len]; omega)
        have S0 := hide hs0
        clear hpv hnone hs0
        go_wp2
        go_ret2
        rw [S0.out]
        exact ⟨_, rfl, Mat.nil _ _ _, B2.out.trans (C3.out.below (Nat.le_refl _) B2.out.size)⟩
      | some p =>
        clear hpv
        go_wp2
        go_roundw
        case rel =>
          refine ⟨k + 1, (clr A k k p, opM S k p (hOf A k p) (fOf A k k p)), by omega, ?_, by go_num, M3.out, S3.out, C3.out⟩
          rw [Gf.invTo, HR.out]
          simp only []
          rw [← PV.out]
        case measure => simp [intOf]; omega
    · obtain rfl : k = n := by omega
      have hs0 : s = (S, true) := by rw [HS.out]; unfold Gf.solN; rw [SH.out.len, HR.out]
      have S0 := hide hs0
      clear hs0
      go_wp2
      go_ret2
      rw [S0.out]
      have hsz := C.out.size
      exact ⟨_, rfl, MS.out.wider hlo hsz, B2.out.trans (C.out.below (Nat.le_refl _) B2.out.size)⟩

set_option maxRecDepth 100000 in
set_option maxHeartbeats 800000 in
theorem sInvert_calls (v : Value) (m : List (List Int)) (w : World) (h : RdM w v m) :
    Calls Tryd.prog 157 #[v] w fun e w' => ∃ v', e = .returned (.tuple #[v', .bool (invR m).2]) ∧ Mat w' w.heap.size w'.heap.size v' (invR m).1 ∧ Below w.heap.size w w' := by
  have R := hide h
  obtain ⟨a, cap, rfl, _⟩ := h
  cases hg : goodM m with
  | false =>
    have e : invR m = ([], false) := by simp [invR, sqOk, hg]
    rw [e]
    have G := hide hg
    clear hg e
    go_enter Tryd.func157, Tryd.ntmps157
    go_wp2_with fail
    refine (sGoodMatrix_calls _ m _ R.out).mono ?_
    rw [G.out]
    rintro e w1 ⟨rfl, rfl⟩
    go_wp2
    go_ret2
    exact ⟨_, rfl, Mat.nil _ _ _, Below.refl _ _⟩
  | true =>
    have G := hide hg
    obtain ⟨f1, f2, _⟩ := goodM_rows hg
    obtain ⟨b, off, u0, rfl, hbl, hcl, hu0⟩ := R.out.rowAt 0 (by omega)
    rw [Nat.add_zero] at hcl
    obtain ⟨c, hc⟩ : ∃ c, c = (m.getD 0 []).length := ⟨_, rfl⟩
    obtain ⟨ua, uc, hu, _⟩ := hu0
    rw [← hc] at hu
    subst hu
    have hm0 : (0 : Int) < (m.length : Int) := by omega
    by_cases hsq : m.length = c
    · have hq : sqOk m = true := by simp [sqOk, hg]; rw [← List.getD_eq_getElem?_getD, ← hc]; exact hsq
      obtain ⟨M, hM⟩ : ∃ M, M = m.map nat := ⟨_, rfl⟩
      have CM : Hid (ciM M = m) := by rw [hM]; exact ciM_nat hg
      have SM : Hid (Sh M m.length m.length) := by rw [hM]; exact sh_sq hq
      obtain ⟨s, hs⟩ : ∃ s, s = solN M (identN m.length) := ⟨_, rfl⟩
      have e : invR m = (ciM s.1, s.2) := by rw [hs, hM]; simp [invR, hq]
      rw [e]
      have e1 : ((m.length : Int) == (c : Int)) = true := by simp; omega
      have HS := hide hs
      clear hg hq hc hsq hM hs e
      go_enter Tryd.func157, Tryd.ntmps157
      go_wp2_with fail
      refine (sGoodMatrix_calls _ m _ R.out).mono ?_
      rw [G.out]
      rintro e w1 ⟨rfl, rfl⟩
      go_wp2_with fail
      refine (l2Invert_calls _ m M m.length _ R.out CM.out SM.out f1 f2).mono ?_
      rw [← HS.out]
      rintro e w3 ⟨v3, rfl, hm3, hb3⟩
      have M3 := hide hm3
      have B3 := hide hb3
      clear hm3 hb3
      go_wp2
      go_ret2
      exact ⟨_, rfl, M3.out, B3.out⟩
    · have hq : invR m = ([], false) := by
        have : sqOk m = false := by
          rw [sqOk, hg, Bool.true_and, ← hc]
          exact decide_eq_false hsq
        simp [invR, this]
      rw [hq]
      have e1 : ((m.length : Int) == (c : Int)) = false := by simp; omega
      clear hg hq hc hsq
      go_enter Tryd.func157, Tryd.ntmps157
      go_wp2_with fail
      refine (sGoodMatrix_calls _ m _ R.out).mono ?_
      rw [G.out]
      rintro e w1 ⟨rfl, rfl⟩
      go_wp2
      go_ret2
      exact ⟨_, rfl, Mat.nil _ _ _, Below.refl _ _⟩
end Go.Proofs.YtogopakmebiomaaDoor

namespace Go.Proofs.YtogopakmebiomaaDoor
open Go.RowKit
open Gf (ci nat ciM Sh AllLt dotTo)

theorem take_snocI (l : List Int) (k : Nat) (h : k < l.length) : l.take (k + 1) = l.take k ++ [l.getD k 0] := by
  rw [List.take_succ_eq_append_getElem h, List.getD_eq_getElem?_getD, List.getElem?_eq_getElem h, Option.getD_some]
theorem rd_one1 {w : World} {z : Int} : Rd (w.alloc (.cells #[.int .i64 z] 3)) (.slice (some ⟨w.heap.size, 0, none⟩) 1 1) [z] := by
  refine ⟨_, 1, rfl, Nat.le_refl _, ⟨by unfold maxLen; omega, fun h => by cases h⟩, .inr ⟨_, 0, rfl, by simp, fun i hi => ?_⟩⟩
  simp at hi
  subst hi
  exact World.cell?_alloc_at _ _ _ _ (by simp)
set_option maxRecDepth 100000 in
theorem asCol1_calls (x : Int) (w : World) :
    Calls Tryd.prog 171 #[.int .i64 x] w fun e w' => ∃ v', e = .returned v' ∧ Own w' w.heap.size v' [x] ∧ Below w.heap.size w w' := by
  have OO : Hid (Own (w.alloc (.cells #[.int .i64 x] 3)) w.heap.size (.slice (some ⟨w.heap.size, 0, none⟩) 1 1) [x]) :=
    World.ownsRow_lit w #[.int .i64 x] 1 (Nat.le_refl _) (by unfold maxLen; omega) (by rfl)
  have BB := hide ((Below.refl w.heap.size w).alloc (Nat.le_refl _) (.cells #[.int .i64 x] 3))
  go_enter Tryd.func171, Tryd.ntmps171
  go_wp2
  go_ret
  exact ⟨_, rfl, OO.out, BB.out⟩
def colI (xs : List Int) : List (List Int) := xs.map fun x => [x]

set_option maxRecDepth 100000 in
set_option maxHeartbeats 800000 in
theorem asColumn_calls (v : Value) (xs : List Int) (w : World) (h : Rd w v xs) (hn : xs.length ≤ 1048576) :
    Calls Tryd.prog 160 #[v] w fun e w' => ∃ v', e = .returned v' ∧ Mat w' w.heap.size w'.heap.size v' (colI xs) ∧ Below w.heap.size w w' := by
  have HE : Calls Tryd.prog 141 #[v, .func (.func 171) #[] #[]] w fun e w' => ∃ v', e = .returned v' ∧ Mat w' w.heap.size w'.heap.size v' (colI xs) ∧ Below w.heap.size w w' := by
    have R := hide h
    obtain ⟨a, cap, rfl, _⟩ := h
    obtain ⟨MM, hM⟩ : ∃ M, M = colI xs := ⟨_, rfl⟩
    rw [← hM]
    have hMl : MM.length = xs.length := by rw [hM]; simp [colI]
    have hMg : ∀ k, k < xs.length → MM.getD k [] = [xs.getD k 0] := fun k hk => by rw [hM]; simp [colI, List.getD_eq_getElem?_getD, hk]
    have ML := hide hMl
    have MG := hide hMg
    clear hM hMl hMg
    go_enter Tryd.func141, Tryd.ntmps141
    go_wp2_with (at_make; refine wpList_make_rows rfl _ _ rfl _ _ xs.length rfl rfl (by omega) (by omega) hn ?_)
    intro w0 hm0 hg0
    have M0 := hide hm0
    have G0 := hide hg0
    clear hm0 hg0
    go_wp2
    go_loopw [6, 7, 13] (fun _ _ vi wr => ∃ (k : Nat) (vs : List Value), k ≤ xs.length ∧ vi = .int .i64 k ∧ MatV wr w.heap.size wr.heap.size (.slice (some ⟨w.heap.size, 0, none⟩) xs.length xs.length) vs (toTo MM k) ∧ Below w.heap.size w wr) (fun _ _ vi _ => xs.length - (intOf vi).toNat)
    case atStart =>
      refine ⟨0, List.replicate xs.length nilRow, Nat.zero_le _, rfl, ?_, (Below.refl _ _).grown G0.out (Nat.le_refl _) (fun k h => by cases h)⟩
      rw [toTo_zero, ML.out]
      exact M0.out
    case round =>
      obtain ⟨k, vs, hk, rfl, hm, hb⟩ := hrel
      have M := hide hm
      have B := hide hb
      clear hm hb
      by_cases hlt : k < xs.length
      · have hlt' : (k : Int) < (xs.length : Int) := by omega
        obtain ⟨b, off, u, rfl, hc1, hu⟩ := (R.out.below B.out).row k hlt
        obtain ⟨x, hx⟩ : ∃ x, x = xs.getD k 0 := ⟨_, rfl⟩
        rw [← hx] at hu
        subst hu
        have X := hide hx
        clear hx
        go_wp2_with fail
        refine (asCol1_calls x _).mono ?_
        rintro e w1 ⟨xv, rfl, hxo, hb1⟩
        obtain ⟨xa, xn, xc, rfl⟩ := hxo.shape
        have hkl : k < (toTo MM k).length := by rw [toTo_length _ k (by rw [ML.out]; exact hk), ML.out]; exact hlt
        have hM1 := M.out.below hb1
        have hc2 : w1.frozen? ⟨w.heap.size, k, none⟩ = false := World.ownsRow.frozenAt (by have := hM1.head; rwa [← hM1.lenEq] at this) k
        have hc3 := hM1.cell k hkl
        have L := hide (M.out.lay k hkl hb1 _ _ hxo M.out.sizeLo (Nat.le_refl _))
        have B1 := hide hb1
        clear hM1 hxo hb1
        go_wp2
        go_roundw
        case rel =>
          refine ⟨k + 1, vs.set k (.slice xa xn xc), by omega, by go_num, ?_, ?_⟩
          · have := L.out.1
            rw [X.out, ← MG.out k hlt, toTo_step _ k (by rw [ML.out]; exact hlt)] at this
            exact this
          · exact (B.out.trans (B1.out.mono B.out.size)).setCell (Nat.le_refl _) _
        case measure => simp [intOf]; omega
      · obtain rfl : k = xs.length := by omega
        go_wp2
        go_ret
        have hm := M.out
        have e := toTo_end MM
        rw [ML.out] at e
        rw [e] at hm
        exact ⟨_, rfl, ⟨_, hm⟩, B.out⟩
  have E := hide HE
  clear HE
  obtain ⟨a, cap, rfl, _⟩ := h
  go_enter Tryd.func160, Tryd.ntmps160
  go_wp2_with fail
  refine E.out.mono ?_
  rintro e w1 ⟨v1, rfl, hm1, hb1⟩
  have M1 := hide hm1
  have B1 := hide hb1
  clear hm1 hb1
  go_wp2
  go_ret
  exact ⟨_, rfl, M1.out, B1.out⟩

set_option maxRecDepth 100000 in
theorem colAt_calls (u : Value) (r : List Int) (f g : Nat) (w : World) (h : Rd w u r) (hg : w.cell? ⟨g, 0, none⟩ = some (.int .i64 f)) (hf : f < r.length) :
    Calls Tryd.prog 173 #[u, .pointer (some ⟨g, 0, none⟩)] w fun e w' => e = .returned (.int .i64 (r.getD f 0)) ∧ w = w' := by
  have R := hide h
  obtain ⟨a, cap, rfl, _⟩ := h
  obtain ⟨b, off, x, rfl, hc, hx⟩ := R.out.row f hf
  subst hx
  have i1 : (f : Int) < (r.length : Int) := by omega
  obtain ⟨y, hy⟩ : ∃ y, y = r.getD f 0 := ⟨_, rfl⟩
  rw [← hy] at hc ⊢
  clear hy
  go_enter Tryd.func173, Tryd.ntmps173
  go_wp2
  go_ret
  exact ⟨rfl, rfl⟩
def colAt (m : List (List Int)) (f : Nat) : List Int := m.map fun r => r.getD f 0

set_option maxRecDepth 100000 in
set_option maxHeartbeats 800000 in
theorem columnOf_calls (v : Value) (m : List (List Int)) (f : Nat) (w : World) (h : RdM w v m) (hn : m.length ≤ 1048576) (hl : ∀ i, i < m.length → f < (m.getD i []).length) :
    Calls Tryd.prog 161 #[v, .int .i64 f] w fun e w' => ∃ v', e = .returned v' ∧ Own w' w.heap.size v' (colAt m f) ∧ Below w.heap.size w w' := by
  obtain ⟨W, hW⟩ : ∃ W, W = w.alloc (.cells #[.int .i64 f] 3) := ⟨_, rfl⟩
  have hBW : Below w.heap.size w W := by rw [hW]; exact (Below.refl _ _).alloc (Nat.le_refl _) _
  have hgW : W.cell? ⟨w.heap.size, 0, none⟩ = some (.int .i64 f) := by rw [hW]; exact World.cell?_alloc_at _ _ _ _ rfl
  have hsW : w.heap.size < W.heap.size := by rw [hW]; simp
  have HE : Calls Tryd.prog 172 #[v, .func (.func 173) #[] #[.pointer (some ⟨w.heap.size, 0, none⟩)]] W fun e w' => ∃ v', e = .returned v' ∧ Own w' W.heap.size v' (colAt m f) ∧ Below W.heap.size W w' := by
    have R := hide (h.below hBW)
    have GW := hide hgW
    have HL := hide hl
    obtain ⟨a, cap, rfl, _⟩ := h
    obtain ⟨xs, hxs⟩ : ∃ xs, xs = colAt m f := ⟨_, rfl⟩
    rw [← hxs]
    have hxl : xs.length = m.length := by rw [hxs]; simp [colAt]
    have hxg : ∀ k, k < m.length → xs.getD k 0 = (m.getD k []).getD f 0 := fun k hk => by rw [hxs]; simp [colAt, List.getD_eq_getElem?_getD, hk]
    have XL := hide hxl
    have XG := hide hxg
    clear hxs hxl hxg hW hBW hgW hl
    go_enter Tryd.func172, Tryd.ntmps172
    go_wp2_with (at_make; refine wpList_make_ints rfl _ _ rfl W.heap.size _ _ m.length rfl rfl (by omega) (by omega) (by omega) (Nat.le_refl _) ?_)
    intro w0 ho0 hg0
    have O0 := hide ho0
    have B0 := hide ((Below.refl W.heap.size W).grown hg0 (Nat.le_refl _) (fun k h => by cases h))
    clear ho0 hg0
    go_wp2
    go_loopw [6, 7, 13] (fun _ _ vi wr => ∃ (k : Nat), k ≤ m.length ∧ vi = .int .i64 k ∧ Own wr W.heap.size (.slice (some ⟨W.heap.size, 0, none⟩) m.length m.length) (cpTo xs k) ∧ Below W.heap.size W wr) (fun _ _ vi _ => m.length - (intOf vi).toNat)
    case atStart =>
      refine ⟨0, Nat.zero_le _, rfl, ?_, B0.out⟩
      rw [cpTo_zero, XL.out]
      exact O0.out
    case round =>
      obtain ⟨k, hk, rfl, ho, hb⟩ := hrel
      by_cases hlt : k < m.length
      · have hlt' : (k : Int) < (m.length : Int) := by omega
        obtain ⟨b, off, u, rfl, hc1, hu⟩ := (R.out.below hb).row k hlt
        have U := hide hu
        have GC : Hid (wr.cell? ⟨w.heap.size, 0, none⟩ = some (.int .i64 f)) := (hb.cell (p := ⟨w.heap.size, 0, none⟩) hsW).trans GW.out
        have hcl : (cpTo xs k).length = m.length := by rw [cpTo_length xs k (by rw [XL.out]; exact hk), XL.out]
        obtain ⟨hfz, hcell⟩ := ho.at k (by rw [hcl]; exact hlt)
        obtain ⟨old, hold⟩ : ∃ o, o = (cpTo xs k).getD k 0 := ⟨_, rfl⟩
        rw [← hold] at hcell
        obtain ⟨y, hy⟩ : ∃ y, y = (m.getD k []).getD f 0 := ⟨_, rfl⟩
        have hst : (cpTo xs k).set k y = cpTo xs (k + 1) := by
          have := cpTo_step xs k (by rw [XL.out]; exact hlt)
          rw [XG.out k hlt] at this
          rw [hy]
          exact this
        have W1 := hide (ho.put k y)
        have ST := hide hst
        have Y := hide hy
        have B := hide hb
        clear hold ho hb hst hcl hu hy
        go_wp2_with fail
        refine (colAt_calls u _ f w.heap.size _ U.out GC.out (HL.out k hlt)).mono ?_
        rw [← Y.out]
        rintro e w1 ⟨rfl, rfl⟩
        go_wp2
        go_roundw
        case rel =>
          refine ⟨k + 1, by omega, by go_num, ?_, B.out.setCell (Nat.le_refl _) _⟩
          have := W1.out.1
          rw [ST.out] at this
          exact this
        case measure => simp [intOf]; omega
      · obtain rfl : k = m.length := by omega
        have O := hide ho
        have B := hide hb
        clear ho hb
        go_wp2
        go_ret
        have h := O.out
        have e := cpTo_end xs
        rw [XL.out] at e
        rw [e] at h
        exact ⟨_, rfl, h, B.out⟩
  have E := hide HE
  have HW := hide hW
  have BW := hide hBW
  obtain ⟨a, cap, rfl, _⟩ := h
  clear HE hW hBW hgW
  go_enter Tryd.func161, Tryd.ntmps161
  go_wp2_with fail
  rw [← HW.out]
  refine E.out.mono ?_
  rintro e w1 ⟨v1, rfl, ho1, hb1⟩
  have O1 := hide (Own.mono ho1 BW.out.size)
  have B1 := hide (BW.out.trans (hb1.mono BW.out.size))
  clear ho1 hb1
  go_wp2
  go_ret
  exact ⟨_, rfl, O1.out, B1.out⟩

/-- A matrix times a column. -/
def mulC (m : List (List Nat)) (v : List Nat) : List Nat := m.map fun r => dotTo r v v.length
set_option maxRecDepth 100000 in
set_option maxHeartbeats 1600000 in
theorem l2Column_calls (mv vv : Value) (M : List (List Nat)) (V : List Nat) (n : Nat) (w : World) (hm : RdM w mv (ciM M)) (hv : Rd w vv (ci V)) (hn : M.length ≤ 4096) (hV : V.length = n) (hn2 : n ≤ 4096) (hr : ∀ i, i < M.length → (M.getD i []).length = n ∧ AllLt (M.getD i [])) (hVl : AllLt V) :
    Calls Tryd.prog 158 #[mv, vv] w fun e w' => ∃ v', e = .returned v' ∧ Own w' w.heap.size v' (ci (mulC M V)) ∧ Below w.heap.size w w' := by
  have RM := hide hm
  have RV := hide hv
  have HR := hide hr
  have VL := hide hVl
  obtain ⟨ma, mcap, hmv, _⟩ := hm
  obtain ⟨va, vcap, hvv, _⟩ := hv
  rw [Gf.ciM_length] at hmv
  rw [Gf.ci_length, hV] at hvv
  subst hmv hvv
  obtain ⟨xs, hxs⟩ : ∃ xs, xs = ci (mulC M V) := ⟨_, rfl⟩
  rw [← hxs]
  have hxl : xs.length = M.length := by rw [hxs, Gf.ci_length]; simp [mulC]
  have hxg : ∀ k, k < M.length → xs.getD k 0 = ((dotTo (M.getD k []) V n : Nat) : Int) := fun k hk => by
    rw [hxs, Gf.ci_getD]
    simp [mulC, List.getD_eq_getElem?_getD, hk, hV]
  have XL := hide hxl
  have XG := hide hxg
  have HV := hide hV
  clear hxs hxl hxg hr hVl hV
  go_enter Tryd.func158, Tryd.ntmps158
  go_wp2
  go_loopw [5, 13] (fun vo vi wr => ∃ k : Nat, k ≤ M.length ∧ vi = .int .i64 k ∧ Own wr w.heap.size vo (xs.take k) ∧ Below w.heap.size w wr) (fun _ vi _ => M.length - (intOf vi).toNat)
  case atStart => exact ⟨0, Nat.zero_le _, rfl, World.ownsRow_nil _ _ _ _, Below.refl _ _⟩
  case round =>
    obtain ⟨k, hk, rfl, ho, hb⟩ := hrel
    have O := hide ho
    have B := hide hb
    clear ho hb
    by_cases hlt : k < M.length
    · have hlt' : (k : Int) < (M.length : Int) := by omega
      obtain ⟨b, off, u, rfl, hc, hu⟩ := (RM.out.below B.out).row k (by rw [Gf.ciM_length]; exact hlt)
      rw [Gf.ciM_get] at hu
      obtain ⟨r, hrr⟩ : ∃ r, r = M.getD k [] := ⟨_, rfl⟩
      obtain ⟨hrl, hrt⟩ := HR.out k hlt
      have hxk := XG.out k hlt
      rw [← hrr] at hu hrl hrt hxk
      have U := hide hu
      obtain ⟨ua, uc, huv, _⟩ := hu
      rw [Gf.ci_length, hrl] at huv
      subst huv
      have RT := hide hrt
      have RL := hide hrl
      have XK := hide hxk
      clear hrr hrl hrt hxk
      go_wp2
      go_loopw [8, 19] (fun vx vi wr2 => ∃ j x : Nat, j ≤ n ∧ vi = .int .i64 j ∧ vx = .int .i64 ((x : Nat) : Int) ∧ x = dotTo r V j ∧ wr2 = wr) (fun _ vi _ => n - (intOf vi).toNat)
      case atStart => exact ⟨0, 0, Nat.zero_le _, rfl, rfl, rfl, rfl⟩
      case round =>
        obtain ⟨j, x, hj, rfl, rfl, hx, rfl⟩ := hrel
        have X := hide hx
        have hx256 : x < 256 := by rw [hx]; exact Gf.dotTo_lt RT.out j
        clear hx
        by_cases hltj : j < n
        · have hltj' : (j : Int) < (n : Int) := by omega
          obtain ⟨rb, roff, ru, rfl, hrc, hru⟩ := U.out.row j (by rw [Gf.ci_length, RL.out]; exact hltj)
          obtain ⟨vb, voff, vu, rfl, hvc, hvu⟩ := (RV.out.below B.out).row j (by rw [Gf.ci_length, HV.out]; exact hltj)
          rw [Gf.ci_getD] at hru hvu
          obtain ⟨p, hp⟩ : ∃ p, p = r.getD j 0 := ⟨_, rfl⟩
          obtain ⟨q, hq⟩ : ∃ q, q = V.getD j 0 := ⟨_, rfl⟩
          rw [← hp] at hru
          rw [← hq] at hvu
          subst hru hvu
          have hp256 : p < 256 := by rw [hp]; exact RT.out j
          have hq256 : q < 256 := by rw [hq]; exact VL.out j
          have hnx : dotTo r V (j + 1) = x ^^^ Gf.mul p q := by rw [Gf.dotTo, ← X.out, ← hp, ← hq]
          have hm256 := Gf.mul_lt (a := p) (b := q) hp256
          obtain ⟨z, hz⟩ : ∃ z, z = Gf.mul p q := ⟨_, rfl⟩
          rw [← hz] at hnx hm256
          have CM : Hid (∀ w', Calls Tryd.prog 128 #[.int .i64 ((p : Nat) : Int), .int .i64 ((q : Nat) : Int)] w' fun e w'' => e = .returned (.int .i64 ((z : Nat) : Int)) ∧ w' = w'') := by
            intro w'
            rw [hz]
            refine (Gf.l1Mul_calls _ _ w' (by omega) (by omega) (by omega) (by omega)).mono ?_
            rintro e w'' ⟨rfl, rfl⟩
            simp
          have NX := hide hnx
          have XO : Hid (bits .xor .i64 ((x : Nat) : Int) ((z : Nat) : Int) = ((x ^^^ z : Nat) : Int)) := Gf.i64_xor _ _ (by omega) (by omega)
          clear hnx hp hq hz
          go_wp2_with fail
          refine (CM.out _).mono ?_
          rintro e w2 ⟨rfl, rfl⟩
          go_wp2
          go_roundw
          case rel => exact ⟨j + 1, x ^^^ z, by omega, by go_num, Gf.int_eq XO.out, NX.out.symm, by first | rfl | trivial⟩
          case measure => simp [intOf]; omega
        · obtain rfl : j = n := by omega
          have O2 := hide (O.out.alloc (.cells #[.int .i64 ((x : Nat) : Int)] 3))
          have HL2 : Hid ((xs.take k).length = k) := by show (xs.take k).length = k; rw [List.length_take, XL.out]; omega
          go_wp2_with (at_builtin; refine wpList_append_rd rfl _ _ rfl w.heap.size _ (xs.take k).length (xs.take k) [((x : Nat) : Int)] rfl O2.out _ rfl rd_one1 (by rw [HL2.out]; simp; omega) (by have := B.out.size; simp; omega) ?_)
          intro v' w3 ho3 hg3
          have hb3 : Below w.heap.size w w3 := (B.out.alloc B.out.size _).grown hg3 (by have := B.out.size; simp; omega) (fun i hi => (O.out.lt i hi).1)
          have e : xs.take k ++ [((x : Nat) : Int)] = xs.take (k + 1) := by rw [take_snocI xs k (by rw [XL.out]; exact hlt), XK.out, X.out]
          rw [e] at ho3
          have O3 := hide ho3
          have B3 := hide hb3
          clear ho3 hg3 hb3 e
          go_wp2
          go_roundw
          case rel => exact ⟨k + 1, by omega, by go_num, O3.out, B3.out⟩
          case measure => simp [intOf]; omega
    · obtain rfl : k = M.length := by omega
      go_wp2
      go_ret
      have h := O.out
      rw [List.take_of_length_le (by rw [XL.out]; exact Nat.le_refl _)] at h
      exact ⟨_, rfl, h, B.out⟩
end Go.Proofs.YtogopakmebiomaaDoor

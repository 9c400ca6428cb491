/-
  Rows copied, from a place on or whole: the program's functions and its model's, call by call. Each contract says what it asks. How many rows are not told by others: the program's RankOf and its model's, at all rows. The program's table of rests must hold its seven numbers where the program's own function is called. A copy into part of a list of the call's own, the world told whole. Each law says what it asks. Rows put behind rows: a copy into part of a list of the call's own, and the program's joinRows. Each contract says what it asks. Rows solved: the program's solveRows, in one call. The contract says what it asks.
-/
import Derived.Test.YtbgadbokejaomaaGreatDoorDamageOfB17
import Derived.Test.YtbgadbokejaomaaGreatDoorDamageOfB27
import Derived.Test.YtbgadbokejaomaaGreatDoorDamageOfB5
import Derived.Deep.RegionLaw
import Derived.Test.YtbgadbokejaomaaGreatDoorDamageOfB24
namespace Go.Proofs.YtbgadbokejaomaaGreatDoor
open Go.RowKit

set_option maxRecDepth 100000 in
set_option maxHeartbeats 800000 in
theorem copyList_calls (v : Value) (xs : List Int) (w : World) (h : Rd w v xs) (hn : xs.length ≤ 1048576) :
    Calls Tryz.prog 118 #[v] w fun e w' => ∃ v', e = .returned v' ∧ Own w' w.heap.size v' xs ∧ Below w.heap.size w w' := by
  have R := hide h
  obtain ⟨a, cap, rfl, h1, h2, h3⟩ := h
  clear h3 h2 h1
  go_enter Tryz.func118, Tryz.ntmps118
  go_wp2_with (at_make; refine wpList_make_ints rfl _ _ rfl w.heap.size _ _ xs.length rfl rfl (by omega) (by omega) (by omega) (Nat.le_refl _) ?_)
  intro w0 hown0 hg0
  have hb0 : Below w.heap.size w w0 := (Below.refl _ _).grown hg0 (Nat.le_refl _) (fun k h => by cases h)
  have O0 := hide hown0
  have B0 := hide hb0
  clear hown0 hg0 hb0
  go_wp2_with (refine wpList_copy_fresh rfl _ _ rfl w.heap.size w.heap.size xs.length (List.replicate xs.length 0) rfl O0.out _ rfl xs (R.out.below B0.out) (Nat.le_refl _) (Nat.le_refl _) (by unfold maxLen; omega) w.heap.size w B0.out (Nat.le_refl _) ?_)
  intro w1 ho hb _
  have O1 := hide ho
  have B1 := hide hb
  clear ho hb
  go_wp2
  go_ret
  exact ⟨_, rfl, by simpa using O1.out, B1.out⟩


theorem rd_cut {w : World} {a : Option Addr} {cap f : Nat} {xs : List Int} (h : Rd w (.slice a xs.length cap) xs) (hf : f ≤ xs.length) (hc : f < cap) :
    Rd w (.slice (Option.map (fun x : Addr => x.add f) a) (xs.length - f) (cap - f)) (xs.drop f) := by
  obtain ⟨a', cap', hv, h1, ⟨h2, h2'⟩, h3⟩ := h
  simp only [Value.slice.injEq] at hv
  obtain ⟨rfl, _, rfl⟩ := hv
  refine ⟨_, cap - f, by rw [List.length_drop], by rw [List.length_drop]; omega, ⟨by omega, fun h => ?_⟩, ?_⟩
  · cases a with
    | none => have := h2' rfl; omega
    | some x => simp at h
  · rcases h3 with h3 | ⟨b, off, rfl, hb, hcell⟩
    · left; rw [h3]; simp
    · right
      have hadd : (⟨b, off, none⟩ : Addr).add f = ⟨b, off + f, none⟩ := by unfold Addr.add; split <;> simp_all
      refine ⟨b, off + f, by simp [hadd], hb, fun i hi => ?_⟩
      rw [List.length_drop] at hi
      have := hcell (f + i) (by omega)
      rw [Nat.add_assoc, this]
      simp [List.getD_eq_getElem?_getD]
set_option maxRecDepth 100000 in
set_option maxHeartbeats 800000 in
theorem rowCut_calls (v : Value) (xs : List Int) (f g : Nat) (w : World) (h : Rd w v xs) (hg : w.cell? ⟨g, 0, none⟩ = some (.int .i64 f)) (hf : f ≤ xs.length) (hl : xs.length ≤ 1048576) :
    Calls Tryz.prog 251 #[v, .pointer (some ⟨g, 0, none⟩)] w fun e w' => ∃ v', e = .returned v' ∧ Own w' w.heap.size v' (xs.drop f) ∧ Below w.heap.size w w' := by
  have R := hide h
  obtain ⟨a, cap, rfl, h1, h2, h3⟩ := h
  clear h3
  have hf1 : (f : Int) ≤ (xs.length : Int) := by omega
  have hf0 : (0 : Int) ≤ (f : Int) := by omega
  by_cases hcf : cap = f
  · subst hcf
    have hR : Rd w (.slice a (xs.length - cap) 0) (xs.drop cap) := by
      have e : xs.drop cap = [] := List.drop_eq_nil_of_le h1
      rw [e, show xs.length - cap = 0 from by omega]
      exact ⟨a, 0, rfl, Nat.le_refl _, ⟨Nat.zero_le _, fun _ => rfl⟩, .inl rfl⟩
    have R2 := hide hR
    have R3 : Hid (Rd w (.slice a 0 0) (xs.drop cap)) := by
      have := hR
      rw [show xs.length - cap = 0 from by omega] at this
      exact this
    have HL := hide hl
    clear hR h2 hl
    go_enter Tryz.func251, Tryz.ntmps251
    go_wp2_with fail
    all_goals
      refine (copyList_calls _ (xs.drop cap) _ (by first | exact R2.out | exact R3.out) (by rw [List.length_drop]; have := HL.out; omega)).mono ?_
      rintro e w1 ⟨v1, rfl, ho, hb⟩
      have O := hide ho
      have B := hide hb
      clear ho hb
      go_wp2
      go_ret
      exact ⟨_, rfl, O.out, B.out⟩
  · have R2 := hide (rd_cut R.out hf (by omega))
    have HL := hide hl
    clear h2 hl
    go_enter Tryz.func251, Tryz.ntmps251
    go_wp2_with fail
    all_goals
      refine (copyList_calls _ (xs.drop f) _ (by first | exact R2.out | omega | (exfalso; omega)) (by rw [List.length_drop]; have := HL.out; omega)).mono ?_
      rintro e w1 ⟨v1, rfl, ho, hb⟩
      have O := hide ho
      have B := hide hb
      clear ho hb
      go_wp2
      go_ret
      exact ⟨_, rfl, O.out, B.out⟩

def dropM (m : List (List Int)) (f : Nat) : List (List Int) := m.map fun r => r.drop f
theorem dropM_length (m : List (List Int)) (f : Nat) : (dropM m f).length = m.length := by simp [dropM]
theorem dropM_get (m : List (List Int)) (f k : Nat) (h : k < m.length) : (dropM m f).getD k [] = (m.getD k []).drop f := by simp [dropM, List.getD_eq_getElem?_getD, h]

set_option maxRecDepth 100000 in
set_option maxHeartbeats 800000 in
theorem eachCut_calls (v : Value) (m : List (List Int)) (f g : Nat) (w : World) (h : RdM w v m) (hgc : w.cell? ⟨g, 0, none⟩ = some (.int .i64 f)) (hgl : g < w.heap.size) (hn : m.length ≤ 1048576)
    (hl : ∀ i, i < m.length → f ≤ (m.getD i []).length ∧ (m.getD i []).length ≤ 1048576) :
    Calls Tryz.prog 250 #[v, .func (.func 251) #[] #[.pointer (some ⟨g, 0, none⟩)]] w fun e w' => ∃ v', e = .returned v' ∧ Mat w' w.heap.size w'.heap.size v' (dropM m f) ∧ Below w.heap.size w w' := by
  have R := hide h
  obtain ⟨a, cap, rfl, _⟩ := h
  have HL := hide hl
  clear hl
  obtain ⟨MM, hM⟩ : ∃ M, M = dropM m f := ⟨_, rfl⟩
  rw [← hM]
  have hMl : MM.length = m.length := by rw [hM, dropM_length]
  have hMg : ∀ k, k < m.length → MM.getD k [] = (m.getD k []).drop f := fun k hk => by rw [hM, dropM_get _ _ _ hk]
  have ML := hide hMl
  have MG := hide hMg
  have GC := hide hgc
  clear hM hMl hMg hgc
  go_enter Tryz.func250, Tryz.ntmps250
  go_wp2_with (at_make; refine wpList_make_rows rfl _ _ rfl _ _ m.length rfl rfl (by omega) (by omega) hn ?_)
  intro w0 hm0 hg0
  have M0 := hide hm0
  have G0 := hide hg0
  clear hm0 hg0
  go_wp2
  go_loopw [6, 7, 13] (fun _ _ vi wr => ∃ (k : Nat) (vs : List Value), k ≤ m.length ∧ vi = .int .i64 k ∧ MatV wr w.heap.size wr.heap.size (.slice (some ⟨w.heap.size, 0, none⟩) m.length m.length) vs (toTo MM k) ∧ Below w.heap.size w wr) (fun _ _ vi _ => m.length - (intOf vi).toNat)
  case atStart =>
    refine ⟨0, List.replicate m.length nilRow, Nat.zero_le _, rfl, ?_, (Below.refl _ _).grown G0.out (Nat.le_refl _) (fun k h => by cases h)⟩
    rw [toTo_zero, ML.out]
    exact M0.out
  case round =>
    obtain ⟨k, vs, hk, rfl, hm, hb⟩ := hrel
    have M := hide hm
    have B := hide hb
    clear hm hb
    by_cases hlt : k < m.length
    · have hlt' : (k : Int) < (m.length : Int) := by omega
      obtain ⟨b, off, u, rfl, hc1, hu⟩ := (R.out.below B.out).row k hlt
      have U := hide hu
      clear hu
      have hgc2 : wr.cell? ⟨g, 0, none⟩ = some (.int .i64 f) := (B.out.cell (p := ⟨g, 0, none⟩) hgl).trans GC.out
      have GC2 := hide hgc2
      clear hgc2
      go_wp2_with fail
      refine (rowCut_calls u _ f g _ U.out GC2.out (HL.out k hlt).1 (HL.out k hlt).2).mono ?_
      rintro e w1 ⟨x, rfl, hx, hb1⟩
      obtain ⟨xa, xn, xc, rfl⟩ := hx.shape
      have hkl : k < (toTo MM k).length := by rw [toTo_length _ k (by rw [ML.out]; exact hk), ML.out]; exact hlt
      have hM1 := M.out.below hb1
      have hc2 : w1.frozen? ⟨w.heap.size, k, none⟩ = false := World.ownsRow.frozenAt (by have := hM1.head; rwa [← hM1.lenEq] at this) k
      have hc3 := hM1.cell k hkl
      have L := hide (M.out.lay k hkl hb1 _ _ hx M.out.sizeLo (Nat.le_refl _))
      have B1 := hide hb1
      clear hM1 hx hb1
      go_wp2
      go_roundw
      case rel =>
        refine ⟨k + 1, vs.set k (.slice xa xn xc), by omega, by go_num, ?_, ?_⟩
        · have := L.out.1
          rw [← MG.out k hlt, toTo_step _ k (by rw [ML.out]; exact hlt)] at this
          exact this
        · exact (B.out.trans (B1.out.mono B.out.size)).setCell (Nat.le_refl _) _
      case measure => simp [intOf]; omega
    · obtain rfl : k = m.length := by omega
      go_wp2
      go_ret
      have hm := M.out
      have e := toTo_end MM
      rw [ML.out] at e
      rw [e] at hm
      exact ⟨_, rfl, ⟨_, hm⟩, B.out⟩

set_option maxRecDepth 100000 in
set_option maxHeartbeats 800000 in
theorem rowsFrom_calls (v : Value) (m : List (List Int)) (f : Nat) (w : World) (h : RdM w v m) (hn : m.length ≤ 1048576)
    (hl : ∀ i, i < m.length → f ≤ (m.getD i []).length ∧ (m.getD i []).length ≤ 1048576) :
    Calls Tryz.prog 222 #[v, .int .i64 f] w fun e w' => ∃ v', e = .returned v' ∧ Mat w' w.heap.size w'.heap.size v' (dropM m f) ∧ Below w.heap.size w w' := by
  have R := hide h
  have HL := hide hl
  have S : ∃ a n c, v = .slice a n c := by
    obtain ⟨a, cap, rfl, _⟩ := h
    exact ⟨_, _, _, rfl⟩
  obtain ⟨a, k, c, rfl⟩ := S
  clear h hl
  go_enter Tryz.func222, Tryz.ntmps222
  go_wp2_with fail
  refine (eachCut_calls _ m f w.heap.size _ (R.out.below ((Below.refl _ _).alloc (Nat.le_refl _) _)) (World.cell?_alloc_at _ _ _ _ rfl) (by simp) hn HL.out).mono ?_
  rintro e w' ⟨v', rfl, hm, hb⟩
  have M := hide hm
  have B := hide hb
  clear hm hb
  go_wp2
  go_ret
  have h0 : Below w.heap.size w (w.alloc (.cells #[.int .i64 f] 3)) := (Below.refl _ _).alloc (Nat.le_refl _) _
  exact ⟨_, rfl, M.out.wider h0.size (Nat.le_refl _), h0.trans (B.out.mono h0.size)⟩

set_option maxRecDepth 100000 in
set_option maxHeartbeats 800000 in
theorem l2Own_calls (v : Value) (m : List (List Int)) (w : World) (h : RdM w v m) (hn : m.length ≤ 1048576) (hl : ∀ i, i < m.length → (m.getD i []).length ≤ 1048576) :
    Calls Tryz.prog 215 #[v] w fun e w' => ∃ v', e = .returned v' ∧ Mat w' w.heap.size w'.heap.size v' m ∧ Below w.heap.size w w' := by
  have R := hide h
  obtain ⟨a, cap, rfl, _⟩ := h
  have HL := hide hl
  clear hl
  go_enter Tryz.func215, Tryz.ntmps215
  go_wp2
  go_loopw [3, 5, 8] (fun vo _ vi wr => ∃ (k : Nat) (vs : List Value), k ≤ m.length ∧ vi = .int .i64 k ∧ MatV wr w.heap.size wr.heap.size vo vs (m.take k) ∧ Below w.heap.size w wr) (fun _ _ vi _ => m.length - (intOf vi).toNat)
  case atStart =>
    obtain ⟨vs, hv⟩ := Mat.nil w w.heap.size w.heap.size
    exact ⟨0, vs, Nat.zero_le _, rfl, hv, Below.refl _ _⟩
  case round =>
    obtain ⟨k, vs, hk, rfl, hm, hb⟩ := hrel
    have M := hide hm
    have B := hide hb
    clear hm hb
    by_cases hlt : k < m.length
    · have hlt' : (k : Int) < (m.length : Int) := by omega
      obtain ⟨b2, off2, u2, rfl, hc2, hu2⟩ := (R.out.below B.out).row k hlt
      obtain ⟨r, hrr⟩ : ∃ r, r = m.getD k [] := ⟨_, rfl⟩
      rw [← hrr] at hu2
      have hrl : r.length ≤ 1048576 := by rw [hrr]; exact HL.out k hlt
      have HR := hide hrr
      clear hrr
      have RR : Hid (Rd (wr.alloc (.cells #[] 3)) u2 r) := hu2.below ((Below.refl _ _).alloc (Nat.le_refl _) _)
      have OO : Hid (Own (wr.alloc (.cells #[] 3)) wr.heap.size (.slice (some ⟨wr.heap.size, 0, none⟩) 0 0) []) :=
        World.ownsRow_lit wr #[] 0 (Nat.le_refl _) (Nat.zero_le _) (by rfl)
      clear hu2
      go_wp2_with (at_builtin; refine wpList_append_rd rfl (.tmp 13) (.tmp 14) rfl wr.heap.size _ 0 [] r rfl OO.out _ rfl RR.out (by omega) (by simp) ?_)
      intro v1 w1 ho1 hg1
      have hb1 : Below wr.heap.size wr w1 := ((Below.refl _ _).alloc (Nat.le_refl _) _).grown hg1 (by simp) (fun k hk => (OO.out.lt k hk).1)
      obtain ⟨xa, xn, xc, rfl⟩ := ho1.shape
      have ho1' : Own w1 wr.heap.size (.slice xa xn xc) r := by simpa using ho1
      have O1 := hide ho1'
      have B1 := hide hb1
      clear ho1 ho1' hg1 hb1
      go_wp2_with (at_builtin; refine wpList_append_row rfl (.tmp 12) (.tmp 16) rfl w.heap.size wr.heap.size _ vs (m.take k) rfl M.out (B1.out.alloc B1.out.size _) _ r (O1.out.below ((Below.refl _ _).alloc (Nat.le_refl _) _)) (Nat.le_refl _) B.out.size _ rfl (World.cell?_alloc_at _ _ _ _ (by simp)) (by simp; omega) ?_)
      intro v2 w2 hM2 hB2
      have M2 := hide hM2
      have B3 := hide hB2
      clear hM2 hB2
      go_wp2
      go_roundw
      case rel =>
        refine ⟨k + 1, vs ++ [.slice xa xn xc], by omega, by go_num, ?_, B.out.trans B3.out⟩
        have := M2.out
        have e : m.take k ++ [r] = m.take (k + 1) := by
          rw [List.take_succ_eq_append_getElem hlt, HR.out, List.getD_eq_getElem?_getD, List.getElem?_eq_getElem hlt, Option.getD_some]
        rw [e] at this
        exact this
      case measure => simp [intOf]; omega
    · obtain rfl : k = m.length := by omega
      go_wp2
      go_ret
      have hm := M.out
      rw [List.take_of_length_le (Nat.le_refl _)] at hm
      exact ⟨_, rfl, ⟨_, hm⟩, B.out⟩
end Go.Proofs.YtbgadbokejaomaaGreatDoor

namespace Go.Proofs.YtbgadbokejaomaaGreatDoor
open Go.RowKit
open Gf (ci nat ciM swapM pf piv Sh AllLt clr redM)

end Go.Proofs.YtbgadbokejaomaaGreatDoor

namespace Go.Proofs.YtbgadbokejaomaaGreatDoor
open Go.RowKit

def spl (ws : List Int) (off : Nat) (zs : List Int) : List Int := ws.take off ++ (zs ++ ws.drop (off + zs.length))
theorem spl_length (ws : List Int) (off : Nat) (zs : List Int) (h : off + zs.length ≤ ws.length) : (spl ws off zs).length = ws.length := by simp [spl]; omega
theorem own_setRow {w : World} {base g N off : Nat} {ws zs : List Int} (ho : Own w base (.slice (some ⟨g, 0, none⟩) N N) ws) (hfit : off + zs.length ≤ ws.length) :
    Own (w.setRow g ((ws.map (Value.int .i64)).toArray.toList.take off ++ (zs.map (Value.int .i64) ++ (ws.map (Value.int .i64)).toArray.toList.drop (off + (zs.map (Value.int .i64)).length))).toArray) base (.slice (some ⟨g, 0, none⟩) N N) (spl ws off zs) ∧
      w.grownBy (w.setRow g ((ws.map (Value.int .i64)).toArray.toList.take off ++ (zs.map (Value.int .i64) ++ (ws.map (Value.int .i64)).toArray.toList.drop (off + (zs.map (Value.int .i64)).length))).toArray) (some g) := by
  have hN : ws.length = N := by
    rcases ho.2 with ⟨h', _⟩ | ⟨g', cap', cur, h', _⟩
    · simp at h'
    · simp at h'; exact h'.2.1.symm
  have hbg : base ≤ g := (World.ownsRow.lt ho g rfl).1
  have hmx : N ≤ maxLen := by
    rcases ho.2 with ⟨h', _⟩ | ⟨g', cap', cur, h', _, _, _, hm, _⟩
    · simp at h'
    · simp at h'; omega
  have hg := own_full (by unfold Own at ho; rwa [hN] at ho)
  have e : ((ws.map (Value.int .i64)).toArray.toList.take off ++ (zs.map (Value.int .i64) ++ (ws.map (Value.int .i64)).toArray.toList.drop (off + (zs.map (Value.int .i64)).length))) = (spl ws off zs).map (Value.int .i64) := by simp [spl]
  rw [e]
  have hl : (spl ws off zs).length = N := by rw [spl_length _ _ _ hfit, hN]
  have := own_of_block (base := base) (setRow_heap w g _ ((spl ws off zs).map (Value.int .i64)).toArray 3 _ hg) hbg (by rw [hl]; exact hmx)
  rw [hl] at this
  exact ⟨this, rfl, rfl, rfl, by simp [World.setRow], fun k _ hk => setRow_other w g k _ (fun e => hk (by simp [e]))⟩
theorem rd_cells {w : World} {sp : Option Addr} {sLen sCap : Nat} {zs : List Int} (hr : Rd w (.slice sp sLen sCap) zs) (h0 : 0 < zs.length) : sLen = zs.length ∧ ∃ ad, sp = some ad ∧ ∀ j y, (zs.map (Value.int .i64))[j]? = some y → w.cell? (ad.add j) = some y := by
  obtain ⟨a', cap', hv, _, _, h3⟩ := hr
  simp only [Value.slice.injEq] at hv
  obtain ⟨rfl, rfl, rfl⟩ := hv
  refine ⟨rfl, ?_⟩
  rcases h3 with h3 | ⟨b, off, rfl, _, hc⟩
  · rw [h3] at h0; simp at h0
  · refine ⟨_, rfl, fun j y hj => ?_⟩
    have hjl : j < zs.length := by simpa using (List.getElem?_eq_some_iff.1 hj).1
    have hadd : (⟨b, off, none⟩ : Addr).add j = ⟨b, off + j, none⟩ := by unfold Addr.add; split <;> simp_all
    rw [hadd, hc j hjl]
    rw [List.getElem?_map, List.getElem?_eq_getElem hjl] at hj
    simp only [Option.map_some, Option.some.injEq] at hj
    rw [← hj, List.getD_eq_getElem?_getD, List.getElem?_eq_getElem hjl, Option.getD_some]
/-- 'copy(out[off:], p)', out a list of the call's own, p not longer than what is there. -/
theorem wpList_copy_at {w : World} {ops : Array Oper} {rest : List Oper} {o : Oper} {a : Act} {Q : Exit → Act → World → Prop} (hgd : o.guard = none) (d s : Operand)
    (ho : o.op = .call { callee := .builtin .copy, args := #[d, s], argTypes := #[27, 27] })
    (base g N off dLen dCap sLen sCap : Nat) (sp : Option Addr) (ws zs : List Int) (hd : a.eval d = .slice (some ⟨g, off, none⟩) dLen dCap) (hs : a.eval s = .slice sp sLen sCap)
    (hown : Own w base (.slice (some ⟨g, 0, none⟩) N N) ws) (hr : Rd w (.slice sp sLen sCap) zs) (h0 : 0 < zs.length) (hdl : zs.length ≤ dLen) (hfit : off + zs.length ≤ ws.length)
    (h : ∀ w', Own w' base (.slice (some ⟨g, 0, none⟩) N N) (spl ws off zs) → w.grownBy w' (some g) → wpList Tryz.prog ops Q rest (a.put o.dst (goInt zs.length)) w') : wpList Tryz.prog ops Q (o :: rest) a w := by
  obtain ⟨rfl, ad, rfl, hc⟩ := rd_cells hr h0
  have hN : ws.length = N := by
    rcases hown.2 with ⟨h', _⟩ | ⟨g', cap', cur, h', _⟩
    · simp at h'
    · simp at h'; exact h'.2.1.symm
  have hg := own_full (by unfold Own at hown; rwa [hN] at hown)
  refine wpList_copy_own (w := w) hgd d s 27 27 ho 3 Tryz.underlying27 infoSize g off dLen dCap ad zs.length sCap hd hs (ws.map (Value.int .i64)).toArray 3 hg (zs.map (Value.int .i64)) (by rw [List.length_map]; exact (Nat.min_eq_left hdl).symm) hc (by simp; omega) (ints_oneCell _ _) ?_
  obtain ⟨h1, h2⟩ := own_setRow hown hfit
  have := h _ h1 h2
  simp only [List.length_map] at this ⊢
  exact this
theorem step_copy_at {w : World} {ops : Array Oper} {o : Oper} {a : Act} {K : Act → World → Prop} {Q : Exit → Act → World → Prop} {E : Prop} (hgd : o.guard = none) (d s : Operand)
    (ho : o.op = .call { callee := .builtin .copy, args := #[d, s], argTypes := #[27, 27] })
    (base g N off dLen dCap sLen sCap : Nat) (sp : Option Addr) (ws zs : List Int) (hd : a.eval d = .slice (some ⟨g, off, none⟩) dLen dCap) (hs : a.eval s = .slice sp sLen sCap)
    (hown : Own w base (.slice (some ⟨g, 0, none⟩) N N) ws) (hr : Rd w (.slice sp sLen sCap) zs) (h0 : 0 < zs.length) (hdl : zs.length ≤ dLen) (hfit : off + zs.length ≤ ws.length)
    (h : ∀ w', Own w' base (.slice (some ⟨g, 0, none⟩) N N) (spl ws off zs) → w.grownBy w' (some g) → K (a.put o.dst (goInt zs.length)) w') :
    if Region.wanted o (yielded ops a.tmps) = true then Oper.wp Tryz.prog o a w K Q else E := by
  have hw : Region.wanted o (yielded ops a.tmps) = true := by simp [Region.wanted, hgd]
  rw [if_pos hw]
  obtain ⟨rfl, ad, rfl, hc⟩ := rd_cells hr h0
  have hN : ws.length = N := by
    rcases hown.2 with ⟨h', _⟩ | ⟨g', cap', cur, h', _⟩
    · simp at h'
    · simp at h'; exact h'.2.1.symm
  have hg := own_full (by unfold Own at hown; rwa [hN] at hown)
  have hrun := run_copy_row (P := Tryz.prog) w 27 27 o.type 3 g off dLen dCap ad zs.length sCap (ws.map (Value.int .i64)).toArray 3 (zs.map (Value.int .i64)) Tryz.underlying27 infoSize hg (by rw [List.length_map]; exact (Nat.min_eq_left hdl).symm) hc (by simp; omega) (ints_oneCell _ _)
  obtain ⟨h1, h2⟩ := own_setRow hown hfit
  have := h _ h1 h2
  unfold Oper.wp
  simp [execOp, ho, resolve, invoke, builtin, hd, hs, hrun, Result.andThen]
  simp at this
  exact this
end Go.Proofs.YtbgadbokejaomaaGreatDoor

namespace Go.Proofs.YtbgadbokejaomaaGreatDoor
open Go.RowKit

def joinI (l r : List (List Int)) : List (List Int) := (List.range l.length).map fun i => l.getD i [] ++ r.getD i []
theorem joinI_length (l r : List (List Int)) : (joinI l r).length = l.length := by simp [joinI]
theorem joinI_get (l r : List (List Int)) (i : Nat) (h : i < l.length) : (joinI l r).getD i [] = l.getD i [] ++ r.getD i [] := by simp [joinI, h]
theorem spl_two (x y : List Int) (c d : Nat) (hx : x.length = c) (hy : y.length = d) : spl (spl (List.replicate (c + d) 0) 0 x) c y = x ++ y := by
  subst hx hy
  simp [spl]

set_option maxRecDepth 100000 in
set_option maxHeartbeats 1600000 in
theorem joinRows_calls (lv rv : Value) (l r : List (List Int)) (n c d : Nat) (w : World) (hl : RdM w lv l) (hr : RdM w rv r) (hln : l.length = n) (hrn : r.length = n) (hc : ∀ i, i < n → (l.getD i []).length = c) (hd : ∀ i, i < n → (r.getD i []).length = d)
    (hn8 : n ≤ 1048576) (hc1 : 1 ≤ c) (hc8 : c ≤ 4096) (hd1 : 1 ≤ d) (hd8 : d ≤ 4096) :
    Calls Tryz.prog 220 #[lv, rv] w fun e w' => ∃ v', e = .returned v' ∧ Mat w' w.heap.size w'.heap.size v' (joinI l r) ∧ Below w.heap.size w w' := by
  have RL := hide hl
  have RR := hide hr
  obtain ⟨la, lcap, rfl, _⟩ := hl
  obtain ⟨ra, rcap, rfl, _⟩ := hr
  have HC := hide hc
  have HD := hide hd
  obtain ⟨J, hJ⟩ : ∃ J, J = joinI l r := ⟨_, rfl⟩
  rw [← hJ]
  have hJl : J.length = n := by rw [hJ, joinI_length, hln]
  have hJg : ∀ k, k < n → J.getD k [] = l.getD k [] ++ r.getD k [] := fun k hk => by rw [hJ, joinI_get _ _ _ (by rw [hln]; exact hk)]
  have JL := hide hJl
  have JG := hide hJg
  have LN := hide hln
  have RN := hide hrn
  have hln' : l.length = n := hln
  clear hc hd hJ hJl hJg
  rw [hln, hrn]
  clear hln hrn hln'
  go_enter Tryz.func220, Tryz.ntmps220
  go_wp2_with (at_make; refine wpList_make_rows rfl _ _ rfl _ _ n rfl rfl (by omega) (by omega) hn8 ?_)
  intro w0 hm0 hg0
  have M0 := hide hm0
  have G0 := hide hg0
  clear hm0 hg0
  go_wp2
  go_loopw [6, 7, 13] (fun _ _ vi wr => ∃ (k : Nat) (vs : List Value), k ≤ n ∧ vi = .int .i64 k ∧ MatV wr w.heap.size wr.heap.size (.slice (some ⟨w.heap.size, 0, none⟩) n n) vs (toTo J k) ∧ Below w.heap.size w wr) (fun _ _ vi _ => n - (intOf vi).toNat)
  case atStart =>
    refine ⟨0, List.replicate n nilRow, Nat.zero_le _, rfl, ?_, (Below.refl _ _).grown G0.out (Nat.le_refl _) (fun k h => by cases h)⟩
    rw [toTo_zero, JL.out]
    exact M0.out
  case round =>
    obtain ⟨k, vs, hk, rfl, hm, hb⟩ := hrel
    have M := hide hm
    have B := hide hb
    clear hm hb
    by_cases hlt : k < n
    · have hlt' : (k : Int) < (n : Int) := by omega
      have rl := RL.out
      have rr := RR.out
      rw [LN.out] at rl
      rw [RN.out] at rr
      obtain ⟨lb, loff, lu, rfl, hlb, hlc, hlu⟩ := rl.rowAt k (by rw [LN.out]; exact hlt)
      obtain ⟨rb, roff, ru, rfl, hrb, hrc, hru⟩ := rr.rowAt k (by rw [RN.out]; exact hlt)
      clear rl rr
      obtain ⟨x, hx⟩ : ∃ x, x = l.getD k [] := ⟨_, rfl⟩
      obtain ⟨y, hy⟩ : ∃ y, y = r.getD k [] := ⟨_, rfl⟩
      have hxl : x.length = c := by rw [hx]; exact HC.out k hlt
      have hyl : y.length = d := by rw [hy]; exact HD.out k hlt
      rw [← hx] at hlu
      rw [← hy] at hru
      have hjg := JG.out k hlt
      rw [← hx, ← hy] at hjg
      have JK := hide hjg
      have LU := hide hlu
      have RU := hide hru
      obtain ⟨lua, luc, hlv, _⟩ := hlu
      obtain ⟨rua, ruc, hrv, _⟩ := hru
      rw [hxl] at hlv
      rw [hyl] at hrv
      subst hlv hrv
      have XL := hide hxl
      have YL := hide hyl
      have hlc0 : wr.cell? ⟨lb, loff + k, none⟩ = _ := (B.out.cell (p := ⟨lb, loff + k, none⟩) hlb).trans hlc
      have hrc0 : wr.cell? ⟨rb, roff + k, none⟩ = _ := (B.out.cell (p := ⟨rb, roff + k, none⟩) hrb).trans hrc
      clear hx hy hxl hyl hjg
      go_wp2_with (at_make; refine wpList_make_ints rfl _ _ rfl wr.heap.size _ _ (c + d) rfl rfl (by omega) (by omega) (by omega) (Nat.le_refl _) ?_)
      intro w1 hx hg1
      have hb1 : Below wr.heap.size wr w1 := (Below.refl _ _).grown hg1 (Nat.le_refl _) (fun k h => by cases h)
      have hkl : k < (toTo J k).length := by rw [toTo_length _ k (by rw [JL.out]; exact hk), JL.out]; exact hlt
      have hM1 := M.out.below hb1
      have hc2 : w1.frozen? ⟨w.heap.size, k, none⟩ = false := World.ownsRow.frozenAt (by have := hM1.head; rwa [← hM1.lenEq] at this) k
      have hc3 := hM1.cell k hkl
      have L := M.out.lay k hkl hb1 _ _ hx M.out.sizeLo (Nat.le_refl _)
      have hvl : k < vs.length := by rw [M.out.len]; exact hkl
      have hcell2 := L.1.cell k (by rw [List.length_set]; exact hkl)
      rw [getD_set _ _ _ _ _ hvl, if_pos rfl] at hcell2
      have hO2 := L.1.row k (by rw [List.length_set]; exact hkl)
      rw [getD_set _ _ _ _ _ hvl, if_pos rfl, getD_set _ _ _ _ _ hkl, if_pos rfl] at hO2
      have BW := hide ((B.out.trans (hb1.mono B.out.size)).setCell (p := ⟨w.heap.size, k, none⟩) (Nat.le_refl _) (.slice (some ⟨wr.heap.size, 0, none⟩) (c + d) (c + d)))
      have LY := hide L
      have O2 := hide hO2
      have VL := hide hvl
      have KL := hide hkl
      have hg0 : w.heap.size ≤ wr.heap.size := B.out.size
      have hcell3 := hcell2
      have CL2 := hide hcell2
      have hlc2 : (w1.setCell ⟨w.heap.size, k, none⟩ (.slice (some ⟨wr.heap.size, 0, none⟩) (c + d) (c + d))).cell? ⟨lb, loff + k, none⟩ = _ := (BW.out.cell (p := ⟨lb, loff + k, none⟩) hlb).trans hlc
      have hrc2 : (w1.setCell ⟨w.heap.size, k, none⟩ (.slice (some ⟨wr.heap.size, 0, none⟩) (c + d) (c + d))).cell? ⟨rb, roff + k, none⟩ = _ := (BW.out.cell (p := ⟨rb, roff + k, none⟩) hrb).trans hrc
      clear hx hg1 hb1 hM1 L hO2 hvl hcell3
      go_wp2_with (refine wpList_copy_at rfl (.tmp 33) (.tmp 34) rfl w.heap.size wr.heap.size (c + d) 0 (c + d) (c + d) c luc lua (List.replicate (c + d) 0) x rfl rfl O2.out (LU.out.below BW.out) (by rw [XL.out]; omega) (by rw [XL.out]; omega) (by rw [XL.out, List.length_replicate]; omega) ?_)
      intro w3 hO3 hg3
      have hM3 := LY.out.1.write k (by rw [List.length_set]; exact KL.out) _ (by rw [getD_set _ _ _ _ _ VL.out, if_pos rfl]; exact hO3) (by rw [getD_set _ _ _ _ _ VL.out, if_pos rfl]; exact hg3)
      rw [List.set_set] at hM3
      have hB3 : Below w.heap.size w w3 := BW.out.grown hg3 BW.out.size (fun k hk => by cases hk; exact hg0)
      have M3 := hide hM3
      have B3 := hide hB3
      have O3 := hide hO3
      have hrc3 : w3.cell? ⟨rb, roff + k, none⟩ = _ := (hB3.cell (p := ⟨rb, roff + k, none⟩) hrb).trans hrc
      have hcell4 := hM3.cell k (by rw [List.length_set]; exact KL.out)
      rw [getD_set _ _ _ _ _ VL.out, if_pos rfl] at hcell4
      have RU3 : Hid (Rd w3.drew (.slice rua d ruc) y) := (RU.out.below hB3).below (below_drew' (Below.refl _ _))
      have O3d : Hid (Own w3.drew w.heap.size (.slice (some ⟨wr.heap.size, 0, none⟩) (c + d) (c + d)) (spl (List.replicate (c + d) 0) 0 x)) := hO3.drew
      have i0 : (0 : Int) ≤ (k : Int) := by omega
      have i1 : (0 : Int) ≤ (c : Int) := by omega
      have i2 : (c : Int) ≤ ((c + d : Nat) : Int) := by omega
      have i3 : ¬ (c + d = c) := by omega
      have i4 : c + d - c = d := by omega
      have i5 : ¬ (d = 0) := by omega
      have i6 : (c : Int) ≤ (c : Int) + (d : Int) := by omega
      have Z3 := hide hg3.size
      clear hM3 hB3 hO3 hg3
      go_wp2
      go_region_law (refine step_copy_at rfl (.tmp 42) (.tmp 46) rfl w.heap.size wr.heap.size (c + d) c d d d ruc rua (spl (List.replicate (c + d) 0) 0 x) y (by simp [Act.eval, Act.put]) (by simp [Act.eval, Act.put]) O3d.out RU3.out (by rw [YL.out]; omega) (by rw [YL.out]; omega) (by rw [YL.out, spl_length _ _ _ (by rw [XL.out, List.length_replicate]; omega), List.length_replicate]; omega) ?_; intro w4 hO4 hg4)
      all_goals
        have hM4 := M3.out.write k (by rw [List.length_set]; exact KL.out) _ (by rw [getD_set _ _ _ _ _ VL.out, if_pos rfl]; exact hO4) (by rw [getD_set _ _ _ _ _ VL.out, if_pos rfl]; exact ⟨hg4.os, hg4.tape, hg4.output, hg4.size, hg4.block⟩)
        rw [List.set_set, spl_two x y c d XL.out YL.out, ← JK.out, toTo_step _ k (by rw [JL.out]; exact hlt)] at hM4
        have hB4 : Below w.heap.size w w4 := (below_drew' B3.out).grown hg4 B3.out.size (fun k hk => by cases hk; exact hg0)
        have M4 := hide hM4
        have B4 := hide hB4
        have Z4 := hide hg4.size
        clear hM4 hB4 hO4 hg4
        go_wp2
        go_roundw
        case rel => exact ⟨k + 1, _, by omega, by go_num, M4.out.wider (Nat.le_refl _) (Nat.le_trans Z3.out Z4.out), B4.out⟩
        case measure => simp [intOf]; omega
    · obtain rfl : k = n := by omega
      go_wp2
      go_ret
      have hm := M.out
      have e := toTo_end J
      rw [JL.out] at e
      rw [e] at hm
      exact ⟨_, rfl, ⟨_, hm⟩, B.out⟩
end Go.Proofs.YtbgadbokejaomaaGreatDoor

namespace Go.Proofs.YtbgadbokejaomaaGreatDoor
open Go.RowKit
open Gf (ci nat ciM Sh AllLt redM joinN invTo solN)

theorem joinI_ciM (M R : List (List Nat)) : joinI (ciM M) (ciM R) = ciM (joinN M R) := by
  unfold joinI Gf.joinN
  rw [Gf.ciM_length]
  unfold ciM
  rw [List.map_map]
  apply List.map_congr_left
  intro i _
  have e1 := Gf.ciM_get M i
  have e2 := Gf.ciM_get R i
  unfold ciM at e1 e2
  rw [e1, e2]
  simp [ci]
theorem drop_join {A B : List (List Nat)} {n c d : Nat} (ha : Sh A n c) (hb : Sh B n d) : dropM (ciM (joinN A B)) c = ciM B := by
  apply Gf.ext_getD []
  · rw [dropM_length, Gf.ciM_length, Gf.ciM_length, Gf.joinN_length, ha.len, hb.len]
  · intro i hi
    rw [dropM_length, Gf.ciM_length, Gf.joinN_length] at hi
    rw [dropM_get _ _ _ (by rw [Gf.ciM_length, Gf.joinN_length]; exact hi), Gf.ciM_get, Gf.ciM_get, Gf.joinN_get _ _ _ hi]
    rw [ha.len] at hi
    unfold Gf.ci
    rw [List.map_append, List.drop_append_of_le_length (by rw [List.length_map, ha.row i hi]; exact Nat.le_refl _), List.drop_eq_nil_of_le (by rw [List.length_map, ha.row i hi]; exact Nat.le_refl _), List.nil_append]

set_option maxRecDepth 100000 in
set_option maxHeartbeats 1600000 in
theorem solveRows_calls (mv rv : Value) (M R : List (List Nat)) (n d : Nat) (w : World) (hT : Gf.Tab w) (hm : RdM w mv (ciM M)) (hr : RdM w rv (ciM R)) (sm : Sh M n n) (sr : Sh R n d) (h1 : 1 ≤ n) (hn : n ≤ 4096) (hd1 : 1 ≤ d) (hd : d ≤ 4096) :
    Calls Tryz.prog 191 #[mv, rv] w fun e w' => ∃ v', e = .returned (.tuple #[v', .bool (solN M R).2]) ∧ Mat w' w.heap.size w'.heap.size v' (ciM (solN M R).1) ∧ Below w.heap.size w w' := by
  have RM := hide hm
  have RR := hide hr
  have T := hide hT
  have SM := hide sm
  have SR := hide sr
  have ml := sm.len
  obtain ⟨ma, mcap, hmv, _⟩ := hm
  rw [Gf.ciM_length, ml] at hmv
  subst hmv
  obtain ⟨J, hJ⟩ : ∃ J, J = joinN M R := ⟨_, rfl⟩
  have sj : Sh J n (n + d) := by rw [hJ]; exact sm.join sr
  have SJ := hide sj
  have JE : Hid (joinI (ciM M) (ciM R) = ciM J) := by rw [hJ]; exact joinI_ciM M R
  have HJ := hide hJ
  have P0 := hide (Gf.tab_pos hT)
  obtain ⟨s, hs⟩ : ∃ s, s = solN M R := ⟨_, rfl⟩
  rw [← hs]
  have HS := hide hs
  clear hT hr sm sr ml hJ sj hs
  go_enter Tryz.func191, Tryz.ntmps191
  go_wp2_with fail
  refine (joinRows_calls _ _ (ciM M) (ciM R) n n d _ RM.out RR.out (by rw [Gf.ciM_length, SM.out.len]) (by rw [Gf.ciM_length, SR.out.len]) (fun i hi => by rw [Gf.ciM_get, Gf.ci_length, SM.out.row i hi]) (fun i hi => by rw [Gf.ciM_get, Gf.ci_length, SR.out.row i hi]) (by omega) (by omega) (by omega) (by omega) (by omega)).mono ?_
  rw [JE.out]
  rintro e w1 ⟨v1, rfl, hm1, hb1⟩
  have M1 := hide hm1
  have B1 := hide hb1
  clear hm1 hb1
  go_wp2_with fail
  refine (reduceRows_calls v1 J n (n + d) n w.heap.size w1.heap.size w1 (Gf.Tab.below T.out B1.out) M1.out SJ.out h1 (by omega) (by omega) (by omega) P0.out).mono ?_
  cases hi : invTo M R n with
  | none =>
    have hlt := Gf.red_none SM.out SR.out (Nat.le_refl _) n (Nat.le_refl _) hi
    have hs : s = ([], false) := by rw [HS.out]; exact Gf.solN_no hi (by rw [SM.out.len]; exact Nat.le_refl _)
    have S0 := hide hs
    rw [← HJ.out] at hlt
    obtain ⟨rr, hrr⟩ : ∃ r, r = redM J n := ⟨_, rfl⟩
    rw [← hrr] at hlt ⊢
    clear hi hs hrr
    rintro e w2 ⟨rfl, hm2, hc2⟩
    have BB := hide (Below.thenChg B1.out hc2 (Nat.le_refl _))
    have hlt' : ((rr.1 : Nat) : Int) < (n : Int) := by omega
    clear hm2 hc2
    go_wp2
    go_ret2
    rw [S0.out]
    exact ⟨_, rfl, Mat.nil _ _ _, BB.out⟩
  | some q =>
    have hr := Gf.red_some SM.out SR.out (Nat.le_refl _) n (Nat.le_refl _) q hi
    obtain ⟨s1, s2⟩ := Gf.invTo_sh SM.out SR.out n (Nat.le_refl _) q hi
    have hs : s = (q.2, true) := by rw [HS.out]; unfold Gf.solN; rw [SM.out.len, hi]
    have S0 := hide hs
    rw [← HJ.out] at hr
    rw [hr]
    have S1 := hide s1
    have S2 := hide s2
    clear hi hs hr s1 s2
    simp only []
    rintro e w2 ⟨rfl, hm2, hc2⟩
    have M2 := hide hm2
    have BB := hide (Below.thenChg B1.out hc2 (Nat.le_refl _))
    have hlt' : ¬ ((n : Nat) : Int) < (n : Int) := by omega
    clear hm2 hc2
    go_wp2_with fail
    refine (rowsFrom_calls v1 (ciM (joinN q.1 q.2)) n w2 M2.out.rd (by rw [Gf.ciM_length, Gf.joinN_length, S1.out.len]; omega) (fun i hi => by rw [Gf.ciM_length, Gf.joinN_length, S1.out.len] at hi; rw [Gf.ciM_get, Gf.ci_length, (S1.out.join S2.out).row i hi]; omega)).mono ?_
    rw [drop_join S1.out S2.out]
    rintro e w3 ⟨v3, rfl, hm3, hb3⟩
    have M3 := hide (hm3.wider BB.out.size (Nat.le_refl _))
    have B3 := hide (BB.out.trans (hb3.mono BB.out.size))
    clear hm3 hb3
    go_wp2
    go_ret2
    rw [S0.out]
    exact ⟨_, rfl, M3.out, B3.out⟩
end Go.Proofs.YtbgadbokejaomaaGreatDoor

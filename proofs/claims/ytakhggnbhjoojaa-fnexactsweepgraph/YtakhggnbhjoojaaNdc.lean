/-
  Slices of nodes: what the laws' own small functions do with them (copy, compare, mark, look whether the marks are held), call by call. Each contract says what it asks.
-/
import Derived.Test.YtakhggnbhjoojaaNdb
import Derived.Deep.RegionHeld3
namespace Go.Proofs.Ytakhggnbhjoojaa
open Go.RowKit
set_option linter.unusedVariables false

/-- 'make([]Node, n)'. -/
theorem wpList_make_nds {w : World} {ops : Array Oper} {rest : List Oper} {o : Oper} {a : Act} {Q : Exit → Act → World → Prop} (hg : o.guard = none) (l c : Operand) (hop : o.op = Op.makeSlice 25 l c)
    (L C : Int) (n : Nat) (hl : a.eval l = .int .i64 L) (hc : a.eval c = .int .i64 C) (hL : L = (n : Int)) (hC : C = (n : Int)) (hn : n ≤ 1048576)
    (h : ∀ w', NdV w' w.heap.size w'.heap.size (.slice (some ⟨w.heap.size, 0, none⟩) n n) [] (List.replicate n nilRow) [] (List.replicate n nd0) → w.grownBy w' none → wpList Try.prog ops Q rest (a.put o.dst (.slice (some ⟨w.heap.size, 0, none⟩) n n)) w') : wpList Try.prog ops Q (o :: rest) a w := by
  obtain ⟨i0, hi, hz0, hz1, hz2⟩ := info_parts infoNd
  refine wpList_make_full w hg l c _ hop w.heap.size 84 i0 (.agg #[.slice none 0 0, .bool false]) 2 Try.underlying25 hi hz0 hz1 _ _ L C n hl hc hL hC (by rw [hz2]; omega) (by unfold maxLen; omega) (Nat.le_refl _) ?_
  intro w' ho hg'
  have e : (madeCells (Value.agg #[.slice none 0 0, .bool false]).cells (n * 2)).toList = ndC (List.replicate n nilRow) (List.replicate n nd0) := by
    refine List.ext_getElem? fun j => ?_
    have hlen := ndC_len (List.replicate n nilRow) (List.replicate n nd0) (by simp)
    rw [List.length_replicate] at hlen
    by_cases hj : j < n * 2
    · have e2 : (Value.agg #[.slice none 0 0, .bool false]).cells.size = 2 := rfl
      rw [Array.getElem?_toList]
      simp only [madeCells, Array.getElem?_map, e2, Array.getElem?_range, if_pos hj, Option.map_some]
      rcases Nat.mod_two_eq_zero_or_one j with h0 | h0
      · obtain ⟨i, rfl⟩ : ∃ i, j = i * 2 := ⟨j / 2, by omega⟩
        rw [ndC_hold _ _ i (by simp) (by simp; omega), h0]
        simp [List.getD_eq_getElem?_getD, show i < n from by omega]
        rfl
      · obtain ⟨i, rfl⟩ : ∃ i, j = i * 2 + 1 := ⟨j / 2, by omega⟩
        rw [ndC_gone _ _ i (by simp) (by simp; omega), h0]
        simp [List.getD_eq_getElem?_getD, show i < n from by omega]
        rfl
    · rw [List.getElem?_eq_none (by simp [madeCells]; omega), List.getElem?_eq_none (by omega)]
  rw [e] at ho
  have gr : ∀ i, (List.replicate n nilRow).getD i nilRow = nilRow := fun i => by
    simp only [List.getD_eq_getElem?_getD, List.getElem?_replicate]
    split <;> rfl
  refine h w' ⟨by rw [List.length_replicate]; exact ho, fun k hk => (World.ownsRow.lt ho k hk).2, rfl, ⟨by simp, fun i hi => ?_, fun i b hi hb => ?_, fun i j hi hj _ => ?_⟩⟩ hg'
  · have g2 : (([] : List (List Int)) ++ (List.replicate n nd0).map Prod.fst).getD i [] = [] := by
      simp only [List.nil_append, List.map_replicate, List.getD_eq_getElem?_getD, List.getElem?_replicate]
      split <;> rfl
    rw [g2]
    show Own w' _ ((List.replicate n nilRow).getD i nilRow) []
    rw [gr]
    exact World.ownsRow_nil _ _ _ _
  · have : ((List.replicate n nilRow).getD i nilRow).ownBlock = some b := hb
    rw [gr] at this
    simp [Value.ownBlock] at this
  · refine .inl ?_
    show ((List.replicate n nilRow).getD i nilRow).ownBlock = none
    rw [gr]
    rfl

/-- What is copied so far. -/
def cpN (m : List Nd) (k : Nat) : List Nd := m.take k ++ List.replicate (m.length - k) nd0
theorem cpN_len (m : List Nd) (k : Nat) (h : k ≤ m.length) : (cpN m k).length = m.length := by simp [cpN]; omega
theorem cpN_get (m : List Nd) (k : Nat) (h : k < m.length) : (cpN m k).getD k nd0 = nd0 := by
  have e1 : (m.take k).length = k := by simp; omega
  have := getD_app_right (m.take k) (List.replicate (m.length - k) nd0) k 0 nd0 e1
  rw [Nat.add_zero] at this
  unfold cpN
  rw [this]
  simp only [List.getD_eq_getElem?_getD, List.getElem?_replicate]
  split <;> rfl
theorem cpN_step (m : List Nd) (k : Nat) (h : k < m.length) : (cpN m k).set k (m.getD k nd0) = cpN m (k + 1) := by
  have e1 : (m.take k).length = k := by simp; omega
  unfold cpN
  rw [List.set_append_right _ _ (by omega), e1, Nat.sub_self]
  obtain ⟨j, hm⟩ : ∃ j, m.length - k = j + 1 := ⟨m.length - k - 1, by omega⟩
  have hm2 : m.length - (k + 1) = j := by omega
  rw [hm, hm2, List.replicate_succ, List.set_cons_zero, List.take_succ_eq_append_getElem h, List.append_assoc]
  simp only [List.getD_eq_getElem?_getD, List.getElem?_eq_getElem h, Option.getD_some, List.singleton_append]
theorem cpN_zero (m : List Nd) : cpN m 0 = List.replicate m.length nd0 := by simp [cpN]
theorem cpN_end (m : List Nd) : cpN m m.length = m := by simp [cpN]
/-- Two cells of a node are written: what it holds (in a new block), and whether it is Gone. -/
theorem NdV.setBoth {w : World} {lo hi g n cap x hi2 : Nat} {es us : List Value} {qs : List (List Int)} {xs : List Nd} {u : Value} {r : List Int} {z : Bool} (h : NdV w lo hi (.slice (some ⟨g, 0, none⟩) n cap) es us qs xs) (i : Nat) (hi' : i < xs.length) (ho : Own w x u r) (hx : hi ≤ x) (hlx : lo ≤ x) (hh : hi ≤ hi2) (hb : ∀ b, u.ownBlock = some b → b < hi2) :
    NdV ((w.setCell ⟨g, i * 2, none⟩ u).setCell ⟨g, i * 2 + 1, none⟩ (.bool z)) lo hi2 (.slice (some ⟨g, 0, none⟩) n cap) es (us.set i u) qs (xs.set i (r, z)) := by
  have h1 := h.setHold (hi2 := hi2) (u := u) (r := r) i hi' (Own.mono ho hlx) hh (fun b hb' => ⟨hb b hb', .inl (Nat.le_trans hx (World.ownsRow.lt ho b hb').1)⟩)
  have h2 := h1.setGone i (by simpa using hi') z
  rwa [List.set_set, getD_set _ _ _ _ _ hi', if_pos rfl] at h2

set_option linter.unusedSimpArgs false in
set_option maxRecDepth 100000 in
set_option maxHeartbeats 1600000 in
theorem toNodeS_calls (v : Value) (m : List Nd) (w : World) (h : RdN w v m) (hn : m.length + totN m ≤ 1048576) :
    Calls Try.prog 16 #[v] w fun e w' => ∃ g, e = .returned (.slice (some ⟨g, 0, none⟩) m.length m.length) ∧ TNds (.slice (some ⟨g, 0, none⟩) m.length m.length) m w.heap.size w'.heap.size w' ∧ Below w.heap.size w w' := by
  have R := hide h
  obtain ⟨a, cap, rfl, h1, h2, h3⟩ := h
  clear h3 h2 h1
  have hn1 : m.length ≤ 1048576 := by omega
  have Hn := hide hn
  clear hn
  go_enter Try.func16, Try.ntmps16
  go_wp2_with (at_make; refine wpList_make_nds rfl _ _ rfl _ _ m.length rfl rfl (by omega) (by omega) hn1 ?_)
  intro w0 hm0 hg0
  have M0 := hide hm0
  have G0 := hide hg0
  clear hm0 hg0
  go_wp2
  go_loopw [4] (fun vi wr => ∃ (k : Nat) (us : List Value), k ≤ m.length ∧ vi = .int .i64 k ∧ NdV wr w.heap.size wr.heap.size (.slice (some ⟨w.heap.size, 0, none⟩) m.length m.length) [] us [] (cpN m k) ∧ Below w.heap.size w wr) (fun vi _ => m.length - (intOf vi).toNat)
  case atStart => exact ⟨0, _, Nat.zero_le _, rfl, by rw [cpN_zero]; exact M0.out, (Below.refl _ _).grown G0.out (Nat.le_refl _) (fun k h => by cases h)⟩
  case round =>
    obtain ⟨k, us, hk, rfl, hm, hb⟩ := hrel
    have M := hide hm
    have B := hide hb
    clear hm hb M0 G0
    by_cases hlt : k < m.length
    · obtain ⟨b, off, u, ks, z, rfl, hx, hu, c0, c1⟩ := (R.out.below B.out).at k hlt
      have U := hide hu
      have HX := hide hx
      have hks : ks.length ≤ 1048576 := by
        have hr := totN_row_le m k hlt
        rw [hx] at hr
        have := Hn.out
        simp only at hr
        omega
      clear hu hx
      have hlt' : (k : Int) < (m.length : Int) := by omega
      obtain ⟨ua, uc, rfl, _, _⟩ := U.out.slc
      go_wp2_with fail
      refine (toNode_calls _ ks z _ U.out hks).mono ?_
      rintro e w1 ⟨x, rfl, hx, hb1⟩
      obtain ⟨xa, xc, rfl⟩ := row_slice hx
      have M1 := hide (M.out.below hb1)
      obtain ⟨d0, d1, f0, f1⟩ := M1.out.cells k (by rw [cpN_len m k hk]; exact hlt)
      have P := M1.out.setBoth (z := z) (hi2 := w1.heap.size) k (by rw [cpN_len m k hk]; exact hlt) hx (Nat.le_refl _) B.out.size hb1.size (row_top hx)
      have e1 : (cpN m k).set k (ks, z) = cpN m (k + 1) := by rw [← HX.out]; exact cpN_step m k hlt
      rw [e1] at P
      have Q4 := hide P
      have B1 := hide hb1
      clear hb1 hx P e1 M1 M
      go_wp2
      go_roundw
      case rel =>
        refine ⟨k + 1, us.set k (.slice xa ks.length xc), by omega, by go_num, ?_, ?_⟩
        · simpa using Q4.out
        · exact (((B.out.trans (B1.out.mono B.out.size)).setCell (Nat.le_refl _) _).setCell (Nat.le_refl _) _)
      case measure => simp [intOf]; omega
    · obtain rfl : k = m.length := by omega
      go_wp2
      go_ret
      refine ⟨_, rfl, ⟨us, ?_⟩, B.out⟩
      have := M.out
      rwa [cpN_end] at this

set_option maxRecDepth 100000 in
set_option maxHeartbeats 1600000 in
theorem eqNodeS_same (v1 v2 : Value) (m : List Nd) (w : World) (h1 : RdN w v1 m) (h2 : RdN w v2 m) :
    Calls Try.prog 20 #[v1, v2] w fun e w' => e = .returned (.bool true) ∧ Below w.heap.size w w' := by
  have R1 := hide h1
  have R2 := hide h2
  obtain ⟨a1, k1, rfl, _, m1, _⟩ := h1
  obtain ⟨a2, k2, rfl, _, _, _⟩ := h2
  have hm : m.length ≤ maxLen := by omega
  unfold maxLen at hm
  clear m1
  go_enter Try.func20, Try.ntmps20
  go_wp2
  go_loopw [5] (fun vi wr => ∃ (k : Nat), k ≤ m.length ∧ vi = .int .i64 k ∧ Below w.heap.size w wr) (fun vi _ => m.length - (intOf vi).toNat)
  case atStart => exact ⟨0, Nat.zero_le _, rfl, Below.refl _ _⟩
  case round =>
    obtain ⟨k, hk, rfl, hb⟩ := hrel
    have B := hide hb
    clear hb
    by_cases hlt : k < m.length
    · obtain ⟨b, off, u, ks, z, rfl, hx, hu, c0, c1⟩ := (R1.out.below B.out).at k hlt
      obtain ⟨b', off', u', ks', z', rfl, hx', hu', d0, d1⟩ := (R2.out.below B.out).at k hlt
      rw [hx] at hx'
      obtain ⟨rfl, rfl⟩ : ks = ks' ∧ z = z' := by simpa using hx'
      have U := hide hu
      have U' := hide hu'
      have hlt' : (k : Int) < (m.length : Int) := by omega
      obtain ⟨ua, uc, rfl, _, _⟩ := U.out.slc
      obtain ⟨ua', uc', rfl, _, _⟩ := U'.out.slc
      have F : Hid (∀ w', Below wr.heap.size wr w' → (w'.cell? ⟨b, off + k * 2, none⟩ = some (.slice ua ks.length uc) ∧ w'.cell? ⟨b, off + k * 2 + 1, none⟩ = some (.bool z)) ∧ (w'.cell? ⟨b', off' + k * 2, none⟩ = some (.slice ua' ks.length uc') ∧ w'.cell? ⟨b', off' + k * 2 + 1, none⟩ = some (.bool z))) := by
        intro w' hb
        have hc : ∀ (b p : Nat) (x : Value), wr.cell? ⟨b, p, none⟩ = some x → w'.cell? ⟨b, p, none⟩ = some x := fun b p x hx => by
          have hlt : b < wr.heap.size := by
            unfold World.cell? at hx
            cases hh : wr.heap[b]? with
            | none => simp [hh] at hx
            | some o => exact (Array.getElem?_eq_some_iff.1 hh).1
          rw [hb.cell hlt]; exact hx
        exact ⟨⟨hc _ _ _ c0, hc _ _ _ c1⟩, hc _ _ _ d0, hc _ _ _ d1⟩
      clear hx hx' hu hu' c0 c1 d0 d1
      go_wp2
      go_region_held3 (fun w' => (w'.cell? ⟨b, off + k * 2, none⟩ = some (.slice ua ks.length uc) ∧ w'.cell? ⟨b, off + k * 2 + 1, none⟩ = some (.bool z)) ∧ (w'.cell? ⟨b', off' + k * 2, none⟩ = some (.slice ua' ks.length uc') ∧ w'.cell? ⟨b', off' + k * 2 + 1, none⟩ = some (.bool z))) (first | exact F.out _ (Below.refl _ _).drew | exact F.out _ B1.out)
        ((go_at_call 74; refine (eqNode_same _ _ ks z _ (U.out.below (Below.refl _ _).drew) (U'.out.below (Below.refl _ _).drew)).mono ?_; rintro e' wr7 ⟨rfl, b7⟩; have B1 := hide ((Below.refl wr.heap.size wr).drew.trans b7); clear b7))
      go_wp2
      go_roundw
      case rel => exact ⟨k + 1, by omega, by go_num, B.out.trans (B1.out.mono B.out.size)⟩
      case measure => simp [intOf]; omega
    · obtain rfl : k = m.length := by omega
      go_wp2
      go_ret
      exact ⟨rfl, B.out⟩
end Go.Proofs.Ytakhggnbhjoojaa

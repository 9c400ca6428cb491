/-
  What is within another set, bits of both: the program's functions, call by call. Each contract says what it asks.
-/
import Derived.Test.YtehjfjplajimfaaFld
import Derived.Test.YtehjfjplajimfaaDlf
import Derived.Lib.SliceRun
namespace Go.Proofs.Ytehjfjplajimfaa
open Go.RowKit
set_option linter.unusedVariables false

theorem cell_grown {w w' : World} {row : Option Nat} (hg : w.grownBy w' row) (a : Addr) (hlt : a.block < w.heap.size) (hne : row ≠ some a.block) : w'.cell? a = w.cell? a := by
  simp only [World.cell?, hg.block a.block hlt (fun e => hne e.symm)]
theorem rdZ_grown {w w' : World} {row : Option Nat} {b off n cap : Nat} {xs : List Bool} (h : RdZ w (.slice (some ⟨b, off, none⟩) n cap) xs) (hg : w.grownBy w' row) (hne : row ≠ some b) : RdZ w' (.slice (some ⟨b, off, none⟩) n cap) xs := by
  obtain ⟨a, c, e, h1, h2, h3⟩ := h
  simp only [Value.slice.injEq] at e
  obtain ⟨rfl, rfl, rfl⟩ := e
  refine ⟨_, _, rfl, h1, h2, ?_⟩
  rcases h3 with h3 | ⟨b', off', e, hlt, hc⟩
  · exact .inl h3
  · simp only [Option.some.injEq, Addr.mk.injEq, and_true] at e
    obtain ⟨rfl, rfl⟩ := e
    exact .inr ⟨_, _, rfl, Nat.lt_of_lt_of_le hlt hg.size, fun i hi => (cell_grown hg ⟨b, off + i, none⟩ hlt hne).trans (hc i hi)⟩
theorem rd_grown {w w' : World} {row : Option Nat} {b off n cap : Nat} {xs : List Int} (h : Rd w (.slice (some ⟨b, off, none⟩) n cap) xs) (hg : w.grownBy w' row) (hne : row ≠ some b) : Rd w' (.slice (some ⟨b, off, none⟩) n cap) xs := by
  obtain ⟨a, c, e, h1, h2, h3⟩ := h
  simp only [Value.slice.injEq] at e
  obtain ⟨rfl, rfl, rfl⟩ := e
  refine ⟨_, _, rfl, h1, h2, ?_⟩
  rcases h3 with h3 | ⟨b', off', e, hlt, hc⟩
  · exact .inl h3
  · simp only [Option.some.injEq, Addr.mk.injEq, and_true] at e
    obtain ⟨rfl, rfl⟩ := e
    exact .inr ⟨_, _, rfl, Nat.lt_of_lt_of_le hlt hg.size, fun i hi => (cell_grown hg ⟨b, off + i, none⟩ hlt hne).trans (hc i hi)⟩
theorem RdZ.opn {w : World} {v : Value} {xs : List Bool} (h : RdZ w v xs) (h0 : 0 < xs.length) : ∃ b off cap, v = .slice (some ⟨b, off, none⟩) xs.length cap ∧ b < w.heap.size := by
  obtain ⟨a, c, rfl, h1, h2, h3⟩ := h
  rcases h3 with h3 | ⟨b, off, rfl, hlt, hc⟩
  · subst h3; simp at h0
  · exact ⟨b, off, c, rfl, hlt⟩

/-- A number of a bit, as a value. -/
abbrev enB (x : Fin 64) : Value := .int .i64 ((x.val : Nat) : Int)
set_option maxRecDepth 100000 in
theorem notIn_calls (x : Fin 64) (gy : Nat) (u : Value) (ys : List Bool) (w : World) (hc : w.cell? ⟨gy, 0, none⟩ = some u) (hu : RdZ w u ys) (hy : ys.length = 64) :
    Calls Try.prog 114 #[enB x, .pointer (some ⟨gy, 0, none⟩)] w fun e w' => e = .returned (.bool (!ys.getD x.val false)) ∧ ∃ q, w' = w.drewN q := by
  have hx := x.isLt
  obtain ⟨n, hn⟩ : ∃ n, n = x.val := ⟨_, rfl⟩
  show Calls _ _ #[.int .i64 ((x.val : Nat) : Int), _] _ _
  rw [← hn] at hx ⊢
  obtain ⟨b, off, cap, rfl, _⟩ := hu.opn (by omega)
  obtain ⟨b', off', e, hc1⟩ := hu.atv n (by omega)
  simp only [Option.some.injEq, Addr.mk.injEq, and_true] at e
  obtain ⟨rfl, rfl⟩ := e
  rw [hy] at hc
  generalize ys.getD n false = z at hc1 ⊢
  clear hu hy hn
  have hx' : (n : Int) < 64 := by omega
  go_enter Try.func114, Try.ntmps114
  go_wp2
  go_ret
  exact ⟨rfl, 0, rfl⟩
set_option maxRecDepth 100000 in
theorem isIn_calls (x : Nat) (gy : Nat) (u : Value) (ys : List Bool) (w : World) (hx : x < 64) (hc : w.cell? ⟨gy, 0, none⟩ = some u) (hu : RdZ w u ys) (hy : ys.length = 64) :
    Calls Try.prog 112 #[.int .i64 (x : Int), .pointer (some ⟨gy, 0, none⟩)] w fun e w' => e = .returned (.bool (ys.getD x false)) ∧ w = w' := by
  obtain ⟨b, off, cap, rfl, _⟩ := hu.opn (by omega)
  obtain ⟨b', off', e, hc1⟩ := hu.atv x (by omega)
  simp only [Option.some.injEq, Addr.mk.injEq, and_true] at e
  obtain ⟨rfl, rfl⟩ := e
  rw [hy] at hc
  generalize ys.getD x false = z at hc1 ⊢
  clear hu hy
  have hx' : (x : Int) < 64 := by omega
  go_enter Try.func112, Try.ntmps112
  go_wp2
  go_ret
  exact ⟨rfl, rfl⟩

theorem grown_sort {w : World} {g n : Nat} {os : Array Obj} (d : Array (Fin 64)) : w.grownBy (Go.Proofs.sortWorld enB w g 0 n d os) (some g) := by
  refine ⟨rfl, rfl, rfl, by simp [Go.Proofs.sortWorld], fun k hk hne => ?_⟩
  unfold Go.Proofs.sortWorld
  rw [Go.Sort.heap_grow_old _ _ (by simpa using hk)]
  have : g ≠ k := fun e => hne (by rw [e])
  simp [Go.Sort.putRow, Go.Sort.mapBlock, Go.Sort.ahead, Array.getElem?_modify, this]
/-- Numbers below 64, as such. -/
def fin64 (ns : List Int) : List (Fin 64) := ns.map fun y => ⟨y.toNat % 64, by omega⟩
theorem fin64_len (ns : List Int) : (fin64 ns).length = ns.length := by simp [fin64]
theorem fin64_at (ns : List Int) (hin : ∀ y ∈ ns, 0 ≤ y ∧ y < 64) (j : Nat) (hj : j < ns.length) : enB (fin64 ns).toArray[j]! = .int .i64 (ns.getD j 0) := by
  have hm : ns[j] ∈ ns := List.getElem_mem hj
  obtain ⟨h0, h1⟩ := hin _ hm
  rw [getElem!_pos (fin64 ns).toArray j (by simpa [fin64] using hj)]
  have e : ((ns[j].toNat % 64 : Nat) : Int) = ns[j] := by omega
  simp only [fin64, List.getElem_toArray, List.getElem_map, List.getD_eq_getElem?_getD, List.getElem?_eq_getElem hj, Option.getD_some]
  exact congrArg (Value.int .i64) e
theorem fin64_filter (ys : List Bool) : ∀ (ns : List Int), (∀ y ∈ ns, 0 ≤ y ∧ y < 64) → ((fin64 ns).filter fun x => !!ys.getD x.val false) = fin64 (ns.filter fun y => !!ys.getD y.toNat false)
  | [], _ => rfl
  | y :: ns, h => by
    have ih := fin64_filter ys ns (fun z hz => h z (by simp [hz]))
    obtain ⟨h0, h1⟩ := h y (by simp)
    have e : y.toNat % 64 = y.toNat := by omega
    simp only [fin64, List.map_cons, List.filter_cons] at ih ⊢
    have c : (!!ys.getD (y.toNat % 64) false) = (!!ys.getD y.toNat false) := by rw [e]
    rw [c]
    split
    · simp only [List.map_cons]
      rw [ih]
    · exact ih
/-- What is left of the numbers: those that the other set has. -/
def leftB (ns : List Int) (ys : List Bool) : List Int := ns.filter fun y => !!ys.getD y.toNat false
theorem deleteBits_calls (g cap : Nat) (ns : List Int) (ys : List Bool) (gy : Nat) (u : Value) (base : Nat) (w : World) (hown : Own w base (.slice (some ⟨g, 0, none⟩) ns.length cap) ns) (hin : ∀ y ∈ ns, 0 ≤ y ∧ y < 64) (hc : w.cell? ⟨gy, 0, none⟩ = some u) (hgy : gy ≠ g) (hu : RdZ w u ys) (hy : ys.length = 64) (hb : ∀ b off cp n, u = .slice (some ⟨b, off, none⟩) n cp → b ≠ g) (hn : ns.length ≤ 64) :
    Calls Try.prog 113 #[.slice (some ⟨g, 0, none⟩) ns.length cap, .func (.func 114) #[] #[.pointer (some ⟨gy, 0, none⟩)]] w fun e w' =>
      e = .returned (.slice (some ⟨g, 0, none⟩) (leftB ns ys).length cap) ∧ Rd w' (.slice (some ⟨g, 0, none⟩) (leftB ns ys).length cap) (leftB ns ys) ∧ w.grownBy w' (some g) := by
  have eg : ∀ args w, (callFunc 114 args).run Try.prog w = .ok (.enter 114 args) w := enters_of Try.func114 (by kernel_rfl) rfl
  have hlt : g < w.heap.size := (hown.lt g rfl).2
  have hcb : gy < w.heap.size := World.block_lt_of_cell? w _ hc
  obtain ⟨hcap, hcm⟩ : ns.length ≤ cap ∧ cap ≤ maxLen := by
    rcases hown.2 with ⟨h', _⟩ | ⟨g', cap', cur, h', _, _, h1, h2, _⟩
    · simp at h'
    · simp only [Value.slice.injEq] at h'; rw [h'.2.2]; exact ⟨h1, h2⟩
  obtain ⟨b, off, cu, rfl, hbl⟩ := hu.opn (by omega)
  have hbg := hb b off cu _ rfl
  have hH : Go.Sort.Holds enB w g 0 (fin64 ns).toArray := by
    intro j hj
    have hj' : j < ns.length := by simpa [fin64] using hj
    refine ⟨?_, hown.frozenAt _⟩
    rw [Nat.zero_add, hown.cellAt j (by omega), fin64_at ns hin j hj', List.getElem?_map, List.getElem?_eq_getElem hj', List.getD_eq_getElem?_getD, List.getElem?_eq_getElem hj', Option.getD_some]
    rfl
  have hsz : (fin64 ns).toArray.size = ns.length := by simp [fin64]
  have hcon := AnyE.slices_DeleteFunc Try.delF enB (fun _ => rfl) (fun x => !ys.getD x.val false) 114 #[.pointer (some ⟨gy, 0, none⟩)] eg 0 Try.zeroValue3 g 0 cap (fin64 ns).toArray w
    (fun W x hW => notIn_calls x gy _ ys W ((hW.cell (p := ⟨gy, 0, none⟩) hcb).trans hc) (hu.below hW) hy)
    (fun n os dk x hdk => notIn_calls x gy _ ys _ ((cell_grown (grown_sort dk) ⟨gy, 0, none⟩ hcb (by simpa using fun e : g = gy => hgy e.symm)).trans hc) (rdZ_grown hu (grown_sort dk) (by simpa using fun e : g = b => hbg e.symm)) hy)
    hH (by rw [hsz]; omega) (by rw [hsz]; exact hcap)
  rw [hsz] at hcon
  refine hcon.mono ?_
  have hf : ((fin64 ns).toArray.toList.filter fun x => !(fun x : Fin 64 => !ys.getD x.val false) x) = fin64 (leftB ns ys) := fin64_filter ys ns hin
  rw [hf, fin64_len]
  rintro e w' ⟨rfl, q, rfl⟩
  have hl : (leftB ns ys).length ≤ ns.length := List.length_filter_le _ _
  have hin2 : ∀ y ∈ leftB ns ys, 0 ≤ y ∧ y < 64 := fun y hy => hin y (List.mem_filter.1 hy).1
  have hg' := grown_sort (w := w) (g := g) (n := q) (os := #[]) (fin64 (leftB ns ys) ++ List.replicate (ns.length - (leftB ns ys).length) 0).toArray
  unfold Go.Proofs.sortWorld at hg'
  rw [Go.Sort.grow_empty] at hg'
  refine ⟨rfl, ⟨_, cap, rfl, by omega, ⟨hcm, fun h => by cases h⟩, .inr ⟨g, 0, rfl, by simpa using hlt, fun i hi => ?_⟩⟩, hg'⟩
  have hs2 : (fin64 (leftB ns ys) ++ List.replicate (ns.length - (leftB ns ys).length) (0 : Fin 64)).toArray.size = (fin64 ns).toArray.size := by simp [fin64]; omega
  rw [Go.Sort.cell?_putRow enB (Go.Sort.ahead w q) g 0 (fin64 ns).toArray _ (Go.Sort.holds_ahead enB w q g 0 _ hH) hs2 i (by rw [hs2, hsz]; omega), ← fin64_at (leftB ns ys) hin2 i hi]
  have h1 : i < (fin64 (leftB ns ys)).length := by rw [fin64_len]; exact hi
  rw [getElem!_pos _ i (by rw [hs2, hsz]; omega), getElem!_pos (fin64 (leftB ns ys)).toArray i (by simpa using h1)]
  simp only [List.getElem_toArray, List.getElem_append_left h1]

theorem own_setCells {base g cap n : Nat} {e : TypeId} : ∀ (vs : List Value) (o : Nat) (w : World) (xs : List Value), w.ownsRow base e 1 (.slice (some ⟨g, 0, none⟩) n cap) n xs →
    (w.setCells g o vs).ownsRow base e 1 (.slice (some ⟨g, 0, none⟩) n cap) n (vs.foldl (fun (p : Nat × List Value) v => (p.1 + 1, p.2.set p.1 v)) (o, xs)).2 ∧ w.grownBy (w.setCells g o vs) (some g)
  | [], o, w, xs, h => ⟨h, World.grownBy.refl _ _⟩
  | v :: vs, o, w, xs, h => by
    have h1 := h.stored o v
    have h2 := own_setCells vs (o + 1) _ _ h1.1
    exact ⟨h2.1, grown_tr h1.2 h2.2⟩
theorem fold_rep (z : Value) : ∀ (m o : Nat) (xs : List Value), o + m = xs.length → ((List.replicate m z).foldl (fun (p : Nat × List Value) v => (p.1 + 1, p.2.set p.1 v)) (o, xs)).2 = xs.take o ++ List.replicate m z
  | 0, o, xs, h => by
    obtain rfl : o = xs.length := by omega
    simp
  | m + 1, o, xs, h => by
    have ih := fold_rep z m (o + 1) (xs.set o z) (by simp; omega)
    rw [List.replicate_succ, List.foldl_cons, ih]
    have e : (xs.set o z).take (o + 1) = xs.take o ++ [z] := by
      rw [List.take_succ_eq_append_getElem (by simp; omega), List.take_set, List.set_eq_of_length_le (by simp; omega)]
      simp
    rw [e, List.append_assoc]
    rfl
/-- 'clear(s)', s a row of 64 Booleans of the call's own: none is set. -/
theorem clear_bits {w : World} {base g cap : Nat} {xs : List Bool} (h : OwnZ w base (.slice (some ⟨g, 0, none⟩) 64 cap) xs) (hx : xs.length = 64) :
    (∀ ty, (Builtin.clear_ #[88] ty #[.slice (some ⟨g, 0, none⟩) 64 cap]).run Try.prog w = .ok (.tuple #[]) (w.setCells g 0 (List.replicate 64 (.bool false)))) ∧
    OwnZ (w.setCells g 0 (List.replicate 64 (.bool false))) base (.slice (some ⟨g, 0, none⟩) 64 cap) no64 ∧ w.grownBy (w.setCells g 0 (List.replicate 64 (.bool false))) (some g) := by
  have h' : w.ownsRow base 4 1 (.slice (some ⟨g, 0, none⟩) 64 cap) 64 (xs.map Value.bool) := by
    have := h
    unfold OwnZ at this
    rwa [hx] at this
  refine ⟨fun ty => Lib.run_clear_slice w _ _ ty (.bool false) Try.underlying88 Try.zeroValue4 rfl rfl g 0 64 cap (by omega) (fun t ht => ?_) (fun t ht => h'.frozenAt _), ?_⟩
  · rw [Nat.zero_add, h'.cellAt t ht, List.getElem?_eq_getElem (by simpa [hx] using ht)]
    rfl
  · have h2 := own_setCells (List.replicate 64 (.bool false)) 0 w _ h'
    rw [fold_rep _ 64 0 _ (by simp [hx])] at h2
    refine ⟨?_, h2.2⟩
    have e : no64.map Value.bool = List.take 0 (xs.map Value.bool) ++ List.replicate 64 (Value.bool false) := by unfold no64; rw [List.map_replicate, List.take_zero, List.nil_append]
    unfold OwnZ
    rw [no64_len, e]
    exact h2.1

set_option maxRecDepth 100000 in
set_option maxHeartbeats 1600000 in
theorem meet_calls (v u : Value) (xs ys : List Bool) (base : Nat) (w : World) (hv : OwnZ w base v xs) (hu : RdZ w u ys) (hx : xs.length = 64) (hy : ys.length = 64) :
    Calls Try.prog 88 #[v, u] w fun e w' => e = .returned (.tuple #[]) ∧ OwnZ w' base v (anB xs ys 64) ∧ w.grownBy w' v.ownBlock := by
  obtain ⟨g, cap, rfl, hg1, hg2⟩ := hv.opn (by omega)
  obtain ⟨b, off, cu, rfl, hbl⟩ := hu.opn (by omega)
  rw [hx] at hv ⊢
  rw [hy] at hu ⊢
  have X0 := BoxAt.new w #[.slice (some ⟨b, off, none⟩) 64 cu] 88
  have B0 := below_box w (.cells #[.slice (some ⟨b, off, none⟩) 64 cu] 88)
  have V0 := hide (ownsRow_below hv B0)
  have U0 := hide (hu.below B0)
  have HX := hide hx
  have HY := hide hy
  have HB0 := hide B0
  have HX0 := hide X0
  obtain ⟨NS, hNS⟩ : ∃ NS, NS = selF 0 xs := ⟨_, rfl⟩
  have NIN : Hid (∀ y ∈ NS, 0 ≤ y ∧ y < 64) := by
    intro y hm
    rw [hNS] at hm
    have h1 := selF_ge xs 0 y hm
    have h2 := selF_lt xs 0 y hm
    omega
  have NL : NS.length ≤ 64 := by rw [hNS]; have := selF_len xs 0; omega
  have AE : Hid (rchN no64 (leftB NS ys) = anB xs ys 64) := by rw [hNS]; exact and_end xs ys hx hy
  have HNS := hide hNS
  clear hv hu hx hy X0 B0 hNS
  go_enter Try.func88, Try.ntmps88
  go_wp2_with fail
  refine (rising_calls _ xs _ (OwnZ.rd V0.out) (by rw [HX.out]; omega)).mono ?_
  rw [← HNS.out]
  rintro e w1 ⟨g1, c1, rfl, o1, b1⟩
  have O1 := hide o1
  have B1 := hide b1
  have V1 := hide (ownsRow_below V0.out b1)
  have U1 := hide (U0.out.below b1)
  have X1 := hide (HX0.out.below b1)
  have hlo : w.heap.size + 1 ≤ g1 := by have := (o1.lt g1 rfl).1; simpa using this
  clear o1 b1 V0 U0 HX0
  go_wp2_with fail
  refine (deleteBits_calls g1 c1 NS ys w.heap.size _ _ w1 O1.out NIN.out X1.out.c1 (by omega) U1.out HY.out (fun b' off' cp n e => by simp only [Value.slice.injEq, Option.some.injEq, Addr.mk.injEq, and_true] at e; omega) NL).mono ?_
  rintro e w2 ⟨rfl, r2, gr2⟩
  have R2 := hide r2
  have GR2 := hide gr2
  have V2 := hide (World.ownsRow.kept V1.out gr2 (by right; intro e; simp [Value.ownBlock] at e; omega))
  clear r2 gr2 V1 U1 X1 O1
  obtain ⟨hcl, v3, gr3⟩ := clear_bits V2.out HX.out
  have V3 := hide v3
  have GR3 := hide gr3
  have R3 := hide (rd_grown R2.out gr3 (by simp; omega))
  clear v3 gr3
  generalize hL : leftB NS ys = LS at R3 AE ⊢
  have LIN : Hid (∀ i, i < LS.length → 0 ≤ LS.getD i 0 ∧ LS.getD i 0 < ((no64.length : Nat) : Int)) := by
    intro i hi
    have hm : LS.getD i 0 ∈ LS := by rw [List.getD_eq_getElem?_getD, List.getElem?_eq_getElem hi, Option.getD_some]; exact List.getElem_mem hi
    rw [← hL] at hm
    have := NIN.out _ (List.mem_filter.1 hm).1
    rw [hL] at this
    rw [no64_len]
    omega
  have LL : LS.length ≤ 64 := by rw [← hL]; exact Nat.le_trans (List.length_filter_le _ _) NL
  clear hL R2
  generalize hW3 : w2.setCells g 0 (List.replicate 64 (.bool false)) = w3 at hcl V3 GR3 R3
  clear hW3
  go_wp2_with fail
  refine (put_calls _ _ no64 LS base w3 V3.out (fun w' hg => rd_grown R3.out hg (by simp [Value.ownBlock]; omega)) LIN.out (by rw [no64_len]; omega) (by rw [no64_len]; omega)).mono ?_
  rw [AE.out]
  rintro e w4 ⟨rfl, o4, g4⟩
  have O4 := hide o4
  have G4 := hide g4
  clear o4 g4
  go_wp2
  go_end0
  refine ⟨rfl, O4.out, ?_⟩
  have h1 : w1.grownBy w2 (some g1) := GR2.out
  have B : Below w.heap.size w w2 := (HB0.out.trans (B1.out.mono HB0.out.size)).grown h1 (by have := HB0.out.size; have := B1.out.size; omega) (fun k hk => by simp only [Option.some.injEq] at hk; omega)
  exact grown_below B (grown_tr GR3.out G4.out)

set_option maxRecDepth 100000 in
set_option maxHeartbeats 800000 in
theorem allIn_calls (v : Value) (ks : List Int) (g : Nat) (u : Value) (ys : List Bool) (y : Bool) (w : World) (hv : Rd w v ks) (hc : w.cell? ⟨g, 0, none⟩ = some u) (hu : RdZ w u ys) (hl : ys.length = 64) (hr : ∀ i, i < ks.length → 0 ≤ ks.getD i 0 ∧ ks.getD i 0 < 64) (hy : y = true ↔ ∀ i, i < ks.length → ys.getD (ks.getD i 0).toNat false = true) :
    Calls Try.prog 71 #[v, .func (.func 112) #[] #[.pointer (some ⟨g, 0, none⟩)]] w fun e w' => e = .returned (.bool y) ∧ w = w' := by
  have R := hide hv
  have HH := hide hu
  have HR := hide hr
  have HY := hide hy
  have HC := hide hc
  have HL := hide hl
  obtain ⟨a, cap, rfl, mh, hcm, _⟩ := hv
  have hm := hcm.1
  unfold maxLen at hm
  clear hu hr hy hc hl hcm
  go_enter Try.func71, Try.ntmps71
  go_wp2
  go_loop [9] (fun vi => ∃ k : Nat, k ≤ ks.length ∧ vi = .int .i64 k ∧ ∀ i, i < k → ys.getD (ks.getD i 0).toNat false = true) (fun vi => ks.length - (intOf vi).toNat)
  case atStart => exact ⟨0, Nat.zero_le _, rfl, fun i hi => by omega⟩
  case round =>
    obtain ⟨k, hk, rfl, hall⟩ := hrel
    have A := hide hall
    clear hall
    by_cases hlt : k < ks.length
    · have hlt' : (k : Int) < (ks.length : Int) := by omega
      obtain ⟨b, off, rfl, hc1⟩ := R.out.cellAt k hlt
      obtain ⟨hx0, hx1⟩ := HR.out k hlt
      obtain ⟨x, hx⟩ : ∃ x : Nat, ks.getD k 0 = (x : Int) := ⟨(ks.getD k 0).toNat, by omega⟩
      rw [hx] at hc1 hx1
      have HX : Hid ((ks.getD k 0).toNat = x) := by show _ = _; rw [hx]; simp
      clear hx hx0
      have CC := hide (isIn_calls x g u ys w (by omega) HC.out HH.out HL.out)
      have QQ : Hid (ys.getD x false = ys.getD x false) := rfl
      cases hq : ys.getD x false with
      | true =>
        have HQ := hide hq
        rw [hq] at CC
        clear hq
        go_wp2_with (go_at_call 112; refine CC.out.mono ?_; rintro e w' ⟨rfl, rfl⟩)
        go_round
        case rel =>
          refine ⟨k + 1, by omega, by go_num, fun i hi => ?_⟩
          by_cases e : i = k
          · subst e; rw [HX.out]; exact HQ.out
          · exact A.out i (by omega)
        case measure => simp [intOf]; omega
      | false =>
        have HQ := hide hq
        rw [hq] at CC
        clear hq
        go_wp2_with (go_at_call 112; refine CC.out.mono ?_; rintro e w' ⟨rfl, rfl⟩)
        go_ret
        obtain rfl : y = false := by
          cases y with
          | false => rfl
          | true =>
            have := HY.out.1 rfl k hlt
            rw [HX.out, HQ.out] at this
            simp at this
        exact ⟨rfl, rfl⟩
    · obtain rfl : k = ks.length := by omega
      obtain rfl : y = true := HY.out.2 A.out
      go_wp2
      go_ret
      exact ⟨rfl, rfl⟩
/-- Whether all of these bits are set. -/
def hasB (ns : List Int) (ys : List Bool) : Bool := ns.all fun y => ys.getD y.toNat false
theorem hasB_iff (ns : List Int) (ys : List Bool) : hasB ns ys = true ↔ ∀ i, i < ns.length → ys.getD (ns.getD i 0).toNat false = true := by
  unfold hasB
  rw [List.all_eq_true]
  constructor
  · intro h i hi
    have e : ns.getD i 0 = ns[i] := by rw [List.getD_eq_getElem?_getD, List.getElem?_eq_getElem hi, Option.getD_some]
    rw [e]
    exact h _ (List.getElem_mem hi)
  · intro h x hx
    obtain ⟨i, hi, rfl⟩ := List.getElem_of_mem hx
    have := h i hi
    have e : ns.getD i 0 = ns[i] := by rw [List.getD_eq_getElem?_getD, List.getElem?_eq_getElem hi, Option.getD_some]
    rwa [e] at this
set_option maxRecDepth 100000 in
set_option maxHeartbeats 800000 in
theorem isWithin_calls (v u : Value) (xs ys : List Bool) (w : World) (hv : RdZ w v xs) (hu : RdZ w u ys) (hx : xs.length = 64) (hy : ys.length = 64) :
    Calls Try.prog 87 #[v, u] w fun e w' => e = .returned (.bool (hasB (selF 0 xs) ys)) ∧ Below w.heap.size w w' := by
  obtain ⟨a, c, rfl, _⟩ := hv.slv
  obtain ⟨b, cu, rfl, _⟩ := hu.slv
  have A0 := hide ((Hand.start w).box #[.slice b ys.length cu] 88)
  have V := hide hv
  have U := hide hu
  have HX := hide hx
  have HY := hide hy
  have hl : xs.length ≤ 1048576 := by omega
  have HI := hide (hasB_iff (selF 0 xs) ys)
  have NIN : Hid (∀ i, i < (selF 0 xs).length → 0 ≤ (selF 0 xs).getD i 0 ∧ (selF 0 xs).getD i 0 < 64) := by
    intro i hi
    have hm : (selF 0 xs).getD i 0 ∈ selF 0 xs := by rw [List.getD_eq_getElem?_getD, List.getElem?_eq_getElem hi, Option.getD_some]; exact List.getElem_mem hi
    have h1 := selF_ge xs 0 _ hm
    have h2 := selF_lt xs 0 _ hm
    omega
  generalize hasB (selF 0 xs) ys = r at HI ⊢
  clear hv hu hx hy
  obtain ⟨NS, hNS⟩ : ∃ NS, NS = selF 0 xs := ⟨_, rfl⟩
  rw [← hNS] at HI NIN
  have HNS := hide hNS
  clear hNS
  go_enter Try.func87, Try.ntmps87
  go_wp2_with fail
  refine (rising_calls _ xs _ (V.out.below A0.out.below) hl).mono ?_
  rw [← HNS.out]
  rintro e w1 ⟨g1, c1, rfl, o1, b1⟩
  have O1 := hide (Own.rd o1)
  have A1 := hide (A0.out.step b1)
  clear o1 b1 A0
  go_wp2_with fail
  refine (allIn_calls _ NS w.heap.size _ ys r w1 O1.out (A1.out.atBox 0 rfl).c1 (U.out.below A1.out.below) HY.out NIN.out HI.out).mono ?_
  rintro e w2 ⟨rfl, rfl⟩
  go_wp2
  go_ret
  exact ⟨rfl, A1.out.below⟩
end Go.Proofs.Ytehjfjplajimfaa

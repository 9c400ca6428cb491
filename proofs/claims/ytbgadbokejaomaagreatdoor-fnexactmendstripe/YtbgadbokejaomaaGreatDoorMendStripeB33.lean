/-
  The program's copy of a disk, call by call. Each contract says what it asks. What is kept of what is held: the program's tests and its model's, call by call. Each contract says what it asks. What may be kept: the model's test, call by call. The contract says what it asks. One sector of a disk of the call's own is written; what a crash leaves. No condition; no call is walked here. A crash, on a disk of the call's own: the model's, call by call. The contract says what it asks. What is kept goes to the plate through a channel: the program's putOnPlate, call by call, by the machine's own steps. The contract says what it asks. What is kept goes to the plate through a channel: the program's putOnPlate as a whole. The contract says what it asks. A crash, on a disk of the call's own: the program's, call by call. The contract says what it asks. Behind a crash: the program's AfterCrash and its model's, call by call. Each contract says what it asks. Bytes that rot: the model's function on a text, call by call. The contract says what it asks. A sector held, a sector healed: the program's functions on a disk of the call's own, call by call. Each contract says what it asks. A step done on a disk of the call's own, kind by kind: the program's doStep, call by call. Each contract says what it asks. Fields that a step has no use for: the program's test, call by call. The contract says what it asks. A step done on a disk of the call's own: what it leaves, and the program's doStep as a whole. Each contract says what it asks. A step of a disk: the program's StepDisk, call by call. The contract says what it asks.
-/
import Derived.Test.YtbgadbokejaomaaGreatDoorMendStripeB32
import Derived.Conc.LoneCalls
import Derived.Conc.LoneSelect
import Derived.Lib.SliceRun
namespace Go.Proofs.YtbgadbokejaomaaGreatDoor
open Go.RowKit
set_option linter.unusedVariables false

set_option maxRecDepth 100000 in
set_option maxHeartbeats 800000 in
theorem eachOf_clone (v : Value) (xs : List ByteArray) (w : World) (h : RdT w v xs) (h28 : ∀ i, i < xs.length → (xs.getD i ⟨#[]⟩).size ≤ 28) (hn : xs.length ≤ 24) :
    Calls Tryz.prog 161 #[v, .func (.func 162) #[] #[]] w fun e w' => ∃ v', e = .returned v' ∧ OwnT w' w.heap.size v' xs ∧ Below w.heap.size w w' := by
  have R := hide h
  have S28 := hide h28
  obtain ⟨a, cap, rfl, mh, _⟩ := h.sl
  clear h h28
  go_enter Tryz.func161, Tryz.ntmps161
  go_wp2_with (at_make; refine wpList_make_texts rfl _ _ rfl w.heap.size _ _ xs.length rfl rfl (by omega) (by omega) (by omega) (Nat.le_refl _) ?_)
  intro w0 hown0 hgrow0
  have E0 := hide hown0
  have G0 := hide hgrow0
  clear hown0 hgrow0
  go_wp2
  go_loopw [6, 7, 13] (fun _ _ vi wr => ∃ k : Nat, k ≤ xs.length ∧ vi = .int .i64 k ∧ wr.ownsRow w.heap.size 9 1 (.slice (some ⟨w.heap.size, 0, none⟩) xs.length xs.length) xs.length ((cpT xs k).map Value.string) ∧ Below w.heap.size w wr) (fun _ _ vi _ => xs.length - (intOf vi).toNat)
  case atStart =>
    refine ⟨0, Nat.zero_le _, rfl, ?_, (Below.refl _ _).grown G0.out (Nat.le_refl _) (fun k h => by cases h)⟩
    rw [cpT_zero]
    have := E0.out
    unfold OwnT at this
    rwa [List.length_replicate] at this
  case round =>
    obtain ⟨k, hk, rfl, hown, hb⟩ := hrel
    have O := hide hown
    have HB := hide hb
    by_cases hlt : k < xs.length
    · obtain ⟨gb, off, rfl, hc, _⟩ := (R.out.below hb).cell k hlt
      have hz := S28.out k hlt
      have hst := fun (W : World) (hW : W.ownsRow w.heap.size 9 1 (.slice (some ⟨w.heap.size, 0, none⟩) xs.length xs.length) xs.length ((cpT xs k).map Value.string)) => hW.stored k (.string (xs.getD k ⟨#[]⟩))
      have STP := hide (cpT_step xs k hlt)
      have ST := hide hst
      generalize xs.getD k ⟨#[]⟩ = z at hc hz ST STP
      clear hown hb hst
      have hlt' : (k : Int) < (xs.length : Int) := by omega
      go_wp2_with fail
      refine (clone_calls z _ (by omega)).mono ?_
      rintro e w1 ⟨rfl, b1⟩
      have o1 := ownsRow_below O.out b1
      have hc2 : w1.frozen? ⟨w.heap.size, k, none⟩ = false := o1.frozenAt k
      obtain ⟨old, hc3⟩ : ∃ old, w1.cell? ⟨w.heap.size, k, none⟩ = some old := by
        rw [o1.cellAt k (by omega)]
        have := cpT_length xs k hk
        exact ⟨_, List.getElem?_eq_getElem (by simp; omega)⟩
      have KK := hide (ST.out _ o1).1
      have B1 := hide ((HB.out.trans (b1.mono HB.out.size)).setCell (p := ⟨w.heap.size, k, none⟩) (Nat.le_refl _) (.string z))
      clear o1 b1 hc
      go_wp2
      go_roundw
      case rel =>
        refine ⟨k + 1, by omega, by go_num, ?_, B1.out⟩
        have := KK.out
        rw [← List.map_set, STP.out] at this
        exact this
      case measure => simp [intOf]; omega
    · obtain rfl : k = xs.length := by omega
      clear hown hb
      have o1 := O.out
      rw [cpT_end] at o1
      have O1 := hide o1
      clear o1
      go_wp2
      go_ret
      exact ⟨_, rfl, O1.out, HB.out⟩

theorem infoBolS : (Tryz.prog.info? 4).map (·.size) = some 1 := by kernel_rfl
theorem bol_full {w : World} {base g n : Nat} {xs : List Value} (h : w.ownsRow base 4 1 (.slice (some ⟨g, 0, none⟩) n n) n xs) : w.heap[g]? = some (.cells xs.toArray 4 (0, 0)) := by
  rcases h.2 with ⟨h', _⟩ | ⟨g', cap', cur, h', _, hg, _, _, hs, ht⟩
  · simp at h'
  · simp only [Value.slice.injEq, Option.some.injEq, Addr.mk.injEq, and_true, true_and] at h'
    obtain ⟨rfl, rfl⟩ := h'
    rw [hg, ← ht, List.take_of_length_le (by rw [Array.length_toList, hs]; exact Nat.le_refl _)]
/-- 'copy(out, p)', out a row of n Booleans that the call has just made, p of n: out holds them. -/
theorem wpList_copy_bols {w : World} {ops : Array Oper} {rest : List Oper} {o : Oper} {a : Act} {Q : Exit → Act → World → Prop} (hgd : o.guard = none) (d s : Operand)
    (ho : o.op = .call { callee := .builtin .copy, args := #[d, s], argTypes := #[24, 24] })
    (base g : Nat) (ws zs : List Bool) (hd : a.eval d = .slice (some ⟨g, 0, none⟩) zs.length zs.length) (hown : w.ownsRow base 4 1 (.slice (some ⟨g, 0, none⟩) zs.length zs.length) zs.length (ws.map Value.bool))
    (u : Value) (hs : a.eval s = u) (hr : RdZ w u zs) (hbase : base ≤ g) (hm : zs.length ≤ 24) (h0 : 0 < zs.length)
    (h : ∀ w', OwnZ w' base (.slice (some ⟨g, 0, none⟩) zs.length zs.length) zs → w.grownBy w' (some g) → wpList Tryz.prog ops Q rest (a.put o.dst (goInt zs.length)) w') : wpList Tryz.prog ops Q (o :: rest) a w := by
  obtain ⟨ad, cap, rfl, h1, ⟨h2, h2'⟩, h3⟩ := hr
  have hg := bol_full hown
  have hwl : (ws.map Value.bool).length = zs.length := by have := hown.1; simpa using this
  rcases h3 with h3 | ⟨b, off, rfl, _, hc⟩
  · subst h3; simp at h0
  refine wpList_copy_own (w := w) hgd d s 24 24 ho 4 Tryz.underlying24 infoBolS g 0 zs.length zs.length ⟨b, off, none⟩ zs.length cap hd hs (ws.map Value.bool).toArray 4 hg (zs.map Value.bool) (by simp) ?_ (by rw [List.size_toArray, hwl]; simp) (bols_oneCell _) ?_
  · intro j y hj
    have hjz : j < zs.length := by simpa using (List.getElem?_eq_some_iff.1 hj).1
    have hadd : (⟨b, off, none⟩ : Addr).add j = ⟨b, off + j, none⟩ := by unfold Addr.add; split <;> simp_all
    rw [hadd, hc j hjz]
    rw [List.getElem?_map, List.getElem?_eq_getElem hjz] at hj
    simp only [Option.map_some, Option.some.injEq] at hj
    rw [← hj, List.getD_eq_getElem?_getD, List.getElem?_eq_getElem hjz, Option.getD_some]
  · have e : ((ws.map Value.bool).toArray.toList.take 0 ++ (zs.map Value.bool ++ (ws.map Value.bool).toArray.toList.drop (0 + (zs.map Value.bool).length))).toArray = (zs.map Value.bool).toArray := by
      rw [List.take_zero, List.nil_append, List.drop_eq_nil_of_le (by simpa using Nat.le_of_eq (by simpa using hwl)), List.append_nil]
    rw [e, List.length_map]
    refine h _ ?_ ⟨rfl, rfl, rfl, by simp [World.setRow], fun k _ hk => setRow_other w g k _ (fun e => hk (by simp [e]))⟩
    exact ⟨by simp, .inr ⟨g, zs.length, _, rfl, hbase, setRow_heap w g _ _ 4 _ hg, Nat.le_refl _, by unfold maxLen; omega, by simp, List.take_of_length_le (by simp)⟩⟩

set_option maxRecDepth 100000 in
set_option maxHeartbeats 800000 in
theorem copyBols_calls (v : Value) (xs : List Bool) (w : World) (h : RdZ w v xs) (h0 : 0 < xs.length) (hn : xs.length ≤ 24) :
    Calls Tryz.prog 163 #[v] w fun e w' => ∃ v', e = .returned v' ∧ OwnZ w' w.heap.size v' xs ∧ Below w.heap.size w w' := by
  have R := hide h
  obtain ⟨a, cap, rfl, mh, _⟩ := h.sl
  clear h
  go_enter Tryz.func163, Tryz.ntmps163
  go_wp2_with (at_make; refine wpList_make_bols rfl _ _ rfl w.heap.size _ _ xs.length rfl rfl (by omega) (by omega) (by omega) (Nat.le_refl _) ?_)
  intro w0 hown0 hgrow0
  have o0 : w0.ownsRow w.heap.size 4 1 (.slice (some ⟨w.heap.size, 0, none⟩) xs.length xs.length) xs.length ((List.replicate xs.length false).map Value.bool) := by
    have := hown0
    unfold OwnZ at this
    rwa [List.length_replicate] at this
  have b0 : Below w.heap.size w w0 := (Below.refl _ _).grown hgrow0 (Nat.le_refl _) (fun k h => by cases h)
  have E0 := hide o0
  have B0 := hide b0
  clear hown0 hgrow0 o0 b0
  go_wp2_with (refine wpList_copy_bols rfl (.tmp 7) (.tmp 8) rfl w.heap.size w.heap.size _ xs rfl E0.out _ rfl (R.out.below B0.out) (Nat.le_refl _) hn h0 ?_)
  intro w1 o1 g1
  have O1 := hide o1
  have B1 := hide (B0.out.grown g1 B0.out.size (fun k h => by cases h; exact Nat.le_refl _))
  clear o1 g1
  go_wp2
  go_ret
  exact ⟨_, rfl, O1.out, B1.out⟩

set_option linter.unusedSimpArgs false in
set_option maxRecDepth 100000 in
set_option maxHeartbeats 6400000 in
theorem copyDisk_calls (p h b : Value) (P H : List ByteArray) (B : List Bool) (w : World) (hp : RdT w p P) (hh : RdT w h H) (hb : RdZ w b B) (hP : 0 < P.length ∧ P.length ≤ 24) (hH : 0 < H.length ∧ H.length ≤ 24) (hB : 0 < B.length ∧ B.length ≤ 24) (hP28 : ∀ i, i < P.length → (P.getD i ⟨#[]⟩).size ≤ 28) (hH28 : ∀ i, i < H.length → (H.getD i ⟨#[]⟩).size ≤ 28) :
    Calls Tryz.prog 117 #[.agg #[p, h, b]] w fun e w' => ∃ p' h' b', e = .returned (.agg #[p', h', b']) ∧ DskV w' w.heap.size w'.heap.size p' h' b' P H B ∧ Below w.heap.size w w' := by
  have SP28 := hide hP28
  have SH28 := hide hH28
  have RP := hide hp
  have RH := hide hh
  have RB := hide hb
  have SP := hide hp.small
  have SH := hide hh.small
  obtain ⟨wa, ea⟩ : ∃ wa, wa = w.alloc (.cells #[p, h, b] 26) := ⟨_, rfl⟩
  obtain ⟨W0, eb⟩ : ∃ wb, wb = wa.alloc (.cells nil3 26) := ⟨_, rfl⟩
  have sa : wa.heap.size = w.heap.size + 1 := by rw [ea]; simp
  have sb : W0.heap.size = w.heap.size + 1 + 1 := by rw [eb, World.size_alloc, sa]
  have ba : Below w.heap.size w wa := by rw [ea]; exact below_box _ _
  have bb : Below wa.heap.size wa W0 := by rw [eb]; exact below_box _ _
  have xa : BoxAt wa w.heap.size #[p, h, b] 26 := by rw [ea]; exact BoxAt.new _ _ _
  have xb : BoxAt W0 (w.heap.size + 1) nil3 26 := by rw [eb, ← sa]; exact BoxAt.new _ _ _
  have EW : Hid ((w.alloc (.cells #[p, h, b] 26)).alloc (.cells nil3 26) = W0) := by show _ = _; rw [eb, ea]
  have BZ0 := hide (ba.trans (bb.mono (by omega)))
  have XR0 := hide xb
  have XB0 := hide (xa.below bb)
  have VS0 := hide sb
  have F0 : Hid (∀ W, Below W0.heap.size W0 W → (W.cell? ⟨w.heap.size, 0, none⟩ = some p ∧ W.cell? ⟨w.heap.size, 1, none⟩ = some h ∧ W.cell? ⟨w.heap.size, 2, none⟩ = some b)) := fun W hW => (XB0.out.below hW).c3
  clear hP28 hH28 hp hh hb ea eb sa sb ba bb xa xb
  go_enter Tryz.func117, Tryz.ntmps117
  go_wp2
  rw [EW.out]
  refine wp_region_noPanic ?_
  refine wp_region_held_drew (S := fun w' => w'.cell? ⟨w.heap.size, 0, none⟩ = some p ∧ w'.cell? ⟨w.heap.size, 1, none⟩ = some h ∧ w'.cell? ⟨w.heap.size, 2, none⟩ = some b) (by kernel_rfl) (F0.out _ (Below.refl _ _).drew) (fun hHeld => ?_)
  have BZ := hide (BZ0.out.drew)
  have XR := hide (XR0.out.below (Below.refl _ _).drew)
  have XB := hide (XB0.out.below (Below.refl _ _).drew)
  have VS : Hid (W0.drew.heap.size = w.heap.size + 1 + 1) := VS0.out
  have F : Hid (∀ W, Below W0.drew.heap.size W0.drew W → (W.cell? ⟨w.heap.size, 0, none⟩ = some p ∧ W.cell? ⟨w.heap.size, 1, none⟩ = some h ∧ W.cell? ⟨w.heap.size, 2, none⟩ = some b)) := fun W hW => (XB.out.below hW).c3
  clear BZ0 XR0 XB0 VS0 F0 EW
  generalize W0.drew = V0 at *
  have BVV0 := hide (Below.refl V0.heap.size V0)
  refine wpAnyH_take (i := 0) (v := ?v1) rfl (by kernel_rfl) (by kernel_rfl) (by kernel_rfl) (fun _ _ _ h => h) (Or.inl ⟨by rfl, ?hy1⟩) (by assumption) ?rest1
  case hy1 => (intro w' hSw; dsimp only [List.getElem_toArray, List.getElem_cons_zero, List.getElem_cons_succ] at hSw ⊢; go_simp; try (with_reducible rfl))
  try simp only [Act.put, List.getElem_toArray, List.getElem_cons_zero, List.getElem_cons_succ, List.setIfInBounds_toArray, List.set_cons_zero, List.set_cons_succ]
  refine wpAnyH_take (i := 1) (v := ?v2) rfl (by kernel_rfl) (by kernel_rfl) (by kernel_rfl) (fun _ _ _ h => h) (Or.inl ⟨by rfl, ?hy2⟩) (by assumption) ?rest2
  case hy2 => (intro w' hSw; dsimp only [List.getElem_toArray, List.getElem_cons_zero, List.getElem_cons_succ] at hSw ⊢; go_simp; try (with_reducible rfl))
  try simp only [Act.put, List.getElem_toArray, List.getElem_cons_zero, List.getElem_cons_succ, List.setIfInBounds_toArray, List.set_cons_zero, List.set_cons_succ]
  refine wpAnyH_take (i := 3) (v := ?v3) rfl (by kernel_rfl) (by kernel_rfl) (by kernel_rfl) (fun _ _ _ h => h) (Or.inl ⟨by rfl, ?hy3⟩) (by assumption) ?rest3
  case hy3 => (intro w' hSw; dsimp only [List.getElem_toArray, List.getElem_cons_zero, List.getElem_cons_succ] at hSw ⊢; go_simp; try (with_reducible rfl))
  try simp only [Act.put, List.getElem_toArray, List.getElem_cons_zero, List.getElem_cons_succ, List.setIfInBounds_toArray, List.set_cons_zero, List.set_cons_succ]
  refine wpAnyH_take (i := 4) (v := ?v4) rfl (by kernel_rfl) (by kernel_rfl) (by kernel_rfl) (fun _ _ _ h => h) (Or.inl ⟨by rfl, ?hy4⟩) (by assumption) ?rest4
  case hy4 => (intro w' hSw; dsimp only [List.getElem_toArray, List.getElem_cons_zero, List.getElem_cons_succ] at hSw ⊢; go_simp; try (with_reducible rfl))
  try simp only [Act.put, List.getElem_toArray, List.getElem_cons_zero, List.getElem_cons_succ, List.setIfInBounds_toArray, List.set_cons_zero, List.set_cons_succ]
  refine wpAnyH_take (i := 6) (v := ?v5) rfl (by kernel_rfl) (by kernel_rfl) (by kernel_rfl) (fun _ _ _ h => h) (Or.inl ⟨by rfl, ?hy5⟩) (by assumption) ?rest5
  case hy5 => (intro w' hSw; dsimp only [List.getElem_toArray, List.getElem_cons_zero, List.getElem_cons_succ] at hSw ⊢; go_simp; try (with_reducible rfl))
  try simp only [Act.put, List.getElem_toArray, List.getElem_cons_zero, List.getElem_cons_succ, List.setIfInBounds_toArray, List.set_cons_zero, List.set_cons_succ]
  refine wpAnyH_take (i := 7) (v := ?v6) rfl (by kernel_rfl) (by kernel_rfl) (by kernel_rfl) (fun _ _ _ h => h) (Or.inl ⟨by rfl, ?hy6⟩) (by assumption) ?rest6
  case hy6 => (intro w' hSw; dsimp only [List.getElem_toArray, List.getElem_cons_zero, List.getElem_cons_succ] at hSw ⊢; go_simp; try (with_reducible rfl))
  try simp only [Act.put, List.getElem_toArray, List.getElem_cons_zero, List.getElem_cons_succ, List.setIfInBounds_toArray, List.set_cons_zero, List.set_cons_succ]
  refine wpAnyH_ready (rs := [2]) (by kernel_rfl) (by simp) ?_
  refine AllReadyH.cons rfl (fun K hK => ?_) AllReadyH.nil
  dsimp only [List.getElem_toArray, List.getElem_cons_zero, List.getElem_cons_succ]
  go_simp
  refine (eachOf_clone _ P _ (RP.out.below (BZ.out.trans (BVV0.out.mono BZ.out.size))) SP28.out hP.2).mono ?_
  rintro e' u1 ⟨v1, rfl, o, bb⟩
  have T1 := hide (row_top o)
  have L1 := hide (row_low o)
  obtain ⟨a1, c1, rfl⟩ := row_slice o
  have BVu1 := hide (BVV0.out.trans (bb.mono BVV0.out.size))
  have szu1 := bb.size
  have O1 := hide o
  clear bb hHeld o
  refine hK.out _ _ (F.out _ BVu1.out) (fun hHeld => ?_)
  clear hK K
  try simp only [Act.put, List.getElem_toArray, List.getElem_cons_zero, List.getElem_cons_succ, List.setIfInBounds_toArray, List.set_cons_zero, List.set_cons_succ]
  refine wpAnyH_ready (rs := [5]) (by kernel_rfl) (by simp) ?_
  refine AllReadyH.cons rfl (fun K hK => ?_) AllReadyH.nil
  dsimp only [List.getElem_toArray, List.getElem_cons_zero, List.getElem_cons_succ]
  go_simp
  refine (eachOf_clone _ H _ (RH.out.below (BZ.out.trans (BVu1.out.mono BZ.out.size))) SH28.out hH.2).mono ?_
  rintro e' u2 ⟨v2, rfl, o, bb⟩
  have T2 := hide (row_top o)
  have L2 := hide (row_low o)
  obtain ⟨a2, c2, rfl⟩ := row_slice o
  have BVu2 := hide (BVu1.out.trans (bb.mono BVu1.out.size))
  have szu2 := bb.size
  have O1 := hide (ownsRow_below O1.out bb)
  have O2 := hide o
  clear bb hHeld o
  refine hK.out _ _ (F.out _ BVu2.out) (fun hHeld => ?_)
  clear hK K
  try simp only [Act.put, List.getElem_toArray, List.getElem_cons_zero, List.getElem_cons_succ, List.setIfInBounds_toArray, List.set_cons_zero, List.set_cons_succ]
  refine wpAnyH_ready (rs := [8]) (by kernel_rfl) (by simp) ?_
  refine AllReadyH.cons rfl (fun K hK => ?_) AllReadyH.nil
  dsimp only [List.getElem_toArray, List.getElem_cons_zero, List.getElem_cons_succ]
  go_simp
  refine (copyBols_calls _ B _ (RB.out.below (BZ.out.trans (BVu2.out.mono BZ.out.size))) hB.1 hB.2).mono ?_
  rintro e' u3 ⟨v3, rfl, o, bb⟩
  have T3 := hide (row_top o)
  have L3 := hide (row_low o)
  obtain ⟨a3, c3, rfl⟩ := row_slice o
  have BVu3 := hide (BVu2.out.trans (bb.mono BVu2.out.size))
  have szu3 := bb.size
  have O1 := hide (ownsRow_below O1.out bb)
  have O2 := hide (ownsRow_below O2.out bb)
  have O3 := hide o
  clear bb hHeld o
  refine hK.out _ _ (F.out _ BVu3.out) (fun hHeld => ?_)
  clear hK K
  try simp only [Act.put, List.getElem_toArray, List.getElem_cons_zero, List.getElem_cons_succ, List.setIfInBounds_toArray, List.set_cons_zero, List.set_cons_succ]
  refine wpAnyH_take (i := 9) (v := ?v7) rfl (by kernel_rfl) (by kernel_rfl) (by kernel_rfl) (fun _ _ _ h => h) (Or.inl ⟨by rfl, ?hy7⟩) (by assumption) ?rest7
  case hy7 => (intro w' hSw; dsimp only [List.getElem_toArray, List.getElem_cons_zero, List.getElem_cons_succ] at hSw ⊢; go_simp; try (with_reducible rfl))
  try simp only [Act.put, List.getElem_toArray, List.getElem_cons_zero, List.getElem_cons_succ, List.setIfInBounds_toArray, List.set_cons_zero, List.set_cons_succ]
  refine wpAnyH_ready (rs := [10]) (by kernel_rfl) (by simp) ?_
  refine AllReadyH.cons rfl (fun K hK => ?_) AllReadyH.nil
  have xr := hide (XR.out.below BVu3.out)
  have xb := hide (XB.out.below BVu3.out)
  obtain ⟨d0, d1, d2⟩ := xr.out.c3
  have g0 := xr.out.frozen 0
  have g1 := xr.out.frozen 1
  have g2 := xr.out.frozen 2
  dsimp only [List.getElem_toArray, List.getElem_cons_zero, List.getElem_cons_succ]
  go_simp
  clear d0 d1 d2 g0 g1 g2 hHeld
  have C6 := Chg.store3 (lo := w.heap.size + 1) (hi := w.heap.size + 1 + 1) u3 (w.heap.size + 1) (.slice a1 P.length c1) (.slice a2 H.length c2) (.slice a3 B.length c3) (Nat.le_refl _) (by omega)
  have XF := hide (xr.out.store3 (.slice a1 P.length c1) (.slice a2 H.length c2) (.slice a3 B.length c3))
  have CC := hide C6
  have s6 := C6.size
  have cb := (xb.out.chg C6 (.inl (by omega))).c3
  clear C6
  refine hK.out _ _ cb (fun hHeld => ?_)
  clear hK K cb hHeld
  try simp only [Act.put, List.getElem_toArray, List.getElem_cons_zero, List.getElem_cons_succ, List.setIfInBounds_toArray, List.set_cons_zero, List.set_cons_succ]
  refine wpAnyH_done (by kernel_rfl) ?_ _
  refine NoPanic.normal ?_
  go_wp2
  refine bodyPost_ret (res_dsk rfl _ _ (w.heap.size + 1) _ _ _ (0, 0) rfl XF.out) rfl ⟨_, _, _, rfl, ?_, (BZ.out.trans (BVu3.out.mono BZ.out.size)).trans (CC.out.below (by omega) (by have := BVu3.out.size; have := VS.out; omega))⟩
  have VS2 := VS.out
  have q1 := BVu3.out.size
  have dd : DskV u3 (w.heap.size + 1 + 1) u3.heap.size (.slice a1 P.length c1) (.slice a2 H.length c2) (.slice a3 B.length c3) P H B := ⟨ownsRow_mono O1.out (by omega), ownsRow_mono O2.out (by omega), ownsRow_mono O3.out (by omega), fun k hk => by have := T1.out k hk; omega, fun k hk => by have := T2.out k hk; omega, fun k hk => by have := T3.out k hk; omega, own_apart T1.out L2.out (by omega), SP.out, SH.out⟩
  exact (dd.chg CC.out (.inr (Nat.le_refl _))).wider (by omega) s6
end Go.Proofs.YtbgadbokejaomaaGreatDoor

namespace Go.Proofs.YtbgadbokejaomaaGreatDoor
open Go.RowKit
set_option linter.unusedVariables false

theorem Rd.at {w : World} {a : Option Addr} {n cap : Nat} {xs : List Int} (h : Rd w (.slice a n cap) xs) (i : Nat) (hi : i < xs.length) : ∃ b off, a = some ⟨b, off, none⟩ ∧ w.cell? ⟨b, off + i, none⟩ = some (.int .i64 (xs.getD i 0)) ∧ b < w.heap.size := by
  obtain ⟨a', cap', hv, _, _, h3⟩ := h
  simp only [Value.slice.injEq] at hv
  obtain ⟨rfl, rfl, rfl⟩ := hv
  rcases h3 with h3 | ⟨b, off, rfl, hlt, hc⟩
  · subst h3; simp at hi
  · exact ⟨b, off, rfl, hc i hi, hlt⟩
theorem Rd.sl {w : World} {v : Value} {xs : List Int} (h : Rd w v xs) : ∃ a cap, v = .slice a xs.length cap ∧ xs.length ≤ 9223372036854775807 ∧ xs.length ≤ cap := by
  obtain ⟨a, cap, rfl, h1, h2, _⟩ := h
  have h3 := h2.1
  exact ⟨a, cap, rfl, by unfold maxLen at h3; omega, h1⟩

end Go.Proofs.YtbgadbokejaomaaGreatDoor

namespace Go.Proofs.YtbgadbokejaomaaGreatDoor
open Go.RowKit
set_option linter.unusedVariables false

end Go.Proofs.YtbgadbokejaomaaGreatDoor

namespace Go.Proofs.YtbgadbokejaomaaGreatDoor
open Go.RowKit
set_option linter.unusedVariables false

section
variable {w : World} {lo hi g c n : Nat} {p h b : Value} {P H : List ByteArray} {B : List Bool}
theorem mem_set_small {P : List ByteArray} (hs : ∀ s ∈ P, s.size ≤ maxLen) (i : Nat) {z : ByteArray} (hz : z.size ≤ maxLen) : ∀ s ∈ P.set i z, s.size ≤ maxLen := by
  intro s h
  rcases List.mem_or_eq_of_mem_set h with h | h
  · exact hs s h
  · rw [h]; exact hz
theorem DskV.putH (d : DskV w lo hi p (.slice (some ⟨g, 0, none⟩) n c) b P H B) (hn : H.length = n) (i : Nat) (z : ByteArray) (hz : z.size ≤ maxLen) :
    DskV (w.setCell ⟨g, i, none⟩ (.string z)) lo hi p (.slice (some ⟨g, 0, none⟩) n c) b P (H.set i z) B ∧ Chg lo hi w (w.setCell ⟨g, i, none⟩ (.string z)) := by
  subst hn
  have st := World.ownsRow.stored d.held i (.string z)
  rw [← List.map_set] at st
  have hg : w.grownBy (w.setCell ⟨g, i, none⟩ (.string z)) (some g) := st.2
  refine ⟨d.setH ?_ (mem_set_small d.sh i hz) hg, d.chgH hg⟩
  show World.ownsRow _ _ _ _ _ (H.set i z).length _
  rw [List.length_set]
  exact st.1
theorem DskV.cellP (d : DskV w lo hi (.slice (some ⟨g, 0, none⟩) n c) h b P H B) (hn : P.length = n) (i : Nat) (hi' : i < n) : w.cell? ⟨g, i, none⟩ = some (.string (P.getD i ⟨#[]⟩)) ∧ w.frozen? ⟨g, i, none⟩ = false := by
  subst hn
  refine ⟨?_, World.ownsRow.frozenAt d.plate i⟩
  rw [World.ownsRow.cellAt d.plate i (by omega), List.getElem?_map, List.getD_eq_getElem?_getD, List.getElem?_eq_getElem hi']
  rfl
theorem DskV.cellH (d : DskV w lo hi p (.slice (some ⟨g, 0, none⟩) n c) b P H B) (hn : H.length = n) (i : Nat) (hi' : i < n) : w.cell? ⟨g, i, none⟩ = some (.string (H.getD i ⟨#[]⟩)) ∧ w.frozen? ⟨g, i, none⟩ = false := by
  subst hn
  refine ⟨?_, World.ownsRow.frozenAt d.held i⟩
  rw [World.ownsRow.cellAt d.held i (by omega), List.getElem?_map, List.getD_eq_getElem?_getD, List.getElem?_eq_getElem hi']
  rfl
theorem DskV.cellB (d : DskV w lo hi p h (.slice (some ⟨g, 0, none⟩) n c) P H B) (hn : B.length = n) (i : Nat) (hi' : i < n) : w.cell? ⟨g, i, none⟩ = some (.bool (B.getD i false)) ∧ w.frozen? ⟨g, i, none⟩ = false := by
  subst hn
  refine ⟨?_, World.ownsRow.frozenAt d.bad i⟩
  rw [World.ownsRow.cellAt d.bad i (by omega), List.getElem?_map, List.getD_eq_getElem?_getD, List.getElem?_eq_getElem hi']
  rfl
/-- The three rows' blocks. -/
theorem DskV.blocks (d : DskV w lo hi p h b P H B) (hP : P.length = n) (hH : H.length = n) (hB : B.length = n) (h0 : 0 < n) :
    ∃ gp cp gh ch gb cb, p = .slice (some ⟨gp, 0, none⟩) n cp ∧ h = .slice (some ⟨gh, 0, none⟩) n ch ∧ b = .slice (some ⟨gb, 0, none⟩) n cb ∧ gp ≠ gh ∧ gp ≠ gb ∧ gh ≠ gb ∧ (gp < hi ∧ gh < hi ∧ gb < hi) ∧ (lo ≤ gp ∧ lo ≤ gh ∧ lo ≤ gb) := by
  rcases d.plate.2 with ⟨_, h0⟩ | ⟨gp, cp, _, rfl, lp, _⟩
  · omega
  rcases d.held.2 with ⟨_, h0⟩ | ⟨gh, ch, _, rfl, lh, _⟩
  · omega
  rcases d.bad.2 with ⟨_, h0⟩ | ⟨gb, cb, _, rfl, lb, _⟩
  · omega
  refine ⟨gp, cp, gh, ch, gb, cb, by rw [hP], by rw [hH], by rw [hB], ?_, ?_, ?_, ⟨d.tp gp rfl, d.th gh rfl, d.tb gb rfl⟩, lp, lh, lb⟩
  · have := d.ph
    simpa [Value.ownBlock] using this
  · have := (bol_txt d.bad d.plate).2
    simpa [Value.ownBlock] using this
  · have := (bol_txt d.bad d.held).2
    simpa [Value.ownBlock] using this
end

theorem ext_getD {l m : List ByteArray} (hl : l.length = m.length) (h : ∀ i, i < l.length → l.getD i ⟨#[]⟩ = m.getD i ⟨#[]⟩) : l = m := by
  apply List.ext_getElem hl
  intro i h1 h2
  have := h i h1
  rwa [List.getD_eq_getElem?_getD, List.getD_eq_getElem?_getD, List.getElem?_eq_getElem h1, List.getElem?_eq_getElem h2] at this
end Go.Proofs.YtbgadbokejaomaaGreatDoor

namespace Go.Proofs.YtbgadbokejaomaaGreatDoor
open Go.RowKit
set_option linter.unusedVariables false

end Go.Proofs.YtbgadbokejaomaaGreatDoor

namespace Go.Proofs.YtbgadbokejaomaaGreatDoor
open Go.RowKit Go.Conc
set_option linter.unusedVariables false

end Go.Proofs.YtbgadbokejaomaaGreatDoor

namespace Go.Proofs.YtbgadbokejaomaaGreatDoor
open Go.RowKit Go.Conc
set_option linter.unusedVariables false

end Go.Proofs.YtbgadbokejaomaaGreatDoor

namespace Go.Proofs.YtbgadbokejaomaaGreatDoor
open Go.RowKit
set_option linter.unusedVariables false

end Go.Proofs.YtbgadbokejaomaaGreatDoor

namespace Go.Proofs.YtbgadbokejaomaaGreatDoor
open Go.RowKit
set_option linter.unusedVariables false

theorem Hand.store3 {W w : World} {L : List Tg} {g : Nat} {a b c : Value} {T : TypeId} (A : Hand W w L) (i : Nat) (hi : L[i]? = some (TBox g #[a, b, c] T)) (v0 v1 v2 : Value) :
    Hand W (((w.setCell ⟨g, 0, none⟩ v0).setCell ⟨g, 1, none⟩ v1).setCell ⟨g, 2, none⟩ v2) (L.set i (TBox g #[v0, v1, v2] T)) := by
  obtain ⟨lo, hi', ⟨b1, b2, b3⟩, _, _, put⟩ := A.open i hi
  exact put _ (TBox g #[v0, v1, v2] T) (TBox.st _ _ _) ⟨b1, b2, b3.store3 v0 v1 v2⟩ (Chg.store3 w g v0 v1 v2 b1 b2)
theorem Hand.wide {W w : World} {L : List Tg} {p h b : Value} {P H : List ByteArray} {B : List Bool} (A : Hand W w L) (i : Nat) (hi : L[i]? = some (TDsk p h b P H B)) : DskV w W.heap.size w.heap.size p h b P H B := by
  obtain ⟨lo, hi', d, h1, h2, _⟩ := A.open i hi
  exact DskV.wider d h1 h2
theorem Hand.two (w : World) (c1 c2 : Array Value) (T1 T2 : TypeId) : Hand w ((w.alloc (.cells c1 T1)).alloc (.cells c2 T2)) [TBox (w.heap.size + 1) c2 T2, TBox w.heap.size c1 T1] := by
  have h := ((Hand.start w).box c1 T1).box c2 T2
  simpa only [World.size_alloc] using h
end Go.Proofs.YtbgadbokejaomaaGreatDoor

namespace Go.Proofs.YtbgadbokejaomaaGreatDoor
open Go.RowKit
set_option linter.unusedVariables false

end Go.Proofs.YtbgadbokejaomaaGreatDoor

namespace Go.Proofs.YtbgadbokejaomaaGreatDoor
open Go.RowKit
set_option linter.unusedVariables false

/-- The text may be held there. -/
def hoOk (B : List Bool) (k : Nat) (T : ByteArray) : Prop := B.getD k false = false ∧ 1 ≤ T.size ∧ T.size ≤ 28

set_option linter.unusedSimpArgs false in
set_option maxRecDepth 100000 in
set_option maxHeartbeats 1600000 in
theorem holdText_calls (p h b : Value) (P H : List ByteArray) (B : List Bool) (lo hi n k : Nat) (T : ByteArray) (y : Bool) (w : World) (d : DskV w lo hi p h b P H B) (hhi : hi ≤ w.heap.size) (hP : P.length = n) (hH : H.length = n) (hB : B.length = n) (hn : 0 < n ∧ n ≤ 24) (hk : k < n) (hT : T.size ≤ 1048576) (hy : y = true ↔ hoOk B k T) :
    Calls Tryz.prog 128 #[.agg #[p, h, b], .int .i64 (k : Int), .string T] w fun e w' => e = .returned (.bool y) ∧ (y = true → DskV w' lo hi p h b P (H.set k T) B) ∧ Chg lo hi w w' := by
  obtain ⟨gp, cp, gh, ch, gb, cb, rfl, rfl, rfl, n1, n2, n3, ⟨t1, t2, t3⟩, _⟩ := d.blocks hP hH hB hn.1
  have HY : Hid (y = true ↔ (B.getD k false = false ∧ 1 ≤ T.size ∧ T.size ≤ 28)) := hy
  have b1 := below_box w (.cells #[.slice (some ⟨gp, 0, none⟩) n cp, .slice (some ⟨gh, 0, none⟩) n ch, .slice (some ⟨gb, 0, none⟩) n cb] 26)
  have C1 : Hid (Chg lo hi w (w.alloc (.cells #[.slice (some ⟨gp, 0, none⟩) n cp, .slice (some ⟨gh, 0, none⟩) n ch, .slice (some ⟨gb, 0, none⟩) n cb] 26))) := Chg.ofBelow b1
  have X1 := hide (BoxAt.new w #[.slice (some ⟨gp, 0, none⟩) n cp, .slice (some ⟨gh, 0, none⟩) n ch, .slice (some ⟨gb, 0, none⟩) n cb] 26)
  have d1 := d.below b1
  have D1 := hide d1
  have LH := hide hH
  have hk' : (k : Int) < (n : Int) := by omega
  obtain ⟨hb1, _⟩ := d1.cellB hB k hk
  clear hy d d1 b1 hP hH hB
  generalize B.getD k false = bad at *
  cases bad with
  | true =>
    have e0 : Hid (y = false) := by
      show y = false
      cases y with
      | false => rfl
      | true => exact absurd (HY.out.1 rfl).1 (by simp)
    go_enter Tryz.func128, Tryz.ntmps128
    go_wp2
    go_ret
    exact ⟨ret_bool e0.out.symm, fun h => by rw [e0.out] at h; simp at h, C1.out⟩
  | false =>
  by_cases hT0 : T.size = 0
  · have hTT := size_zero hT0
    subst hTT
    have e0 : Hid (y = false) := by
      show y = false
      cases y with
      | false => rfl
      | true => exact absurd (HY.out.1 rfl).2.1 (by decide)
    clear hT0
    go_enter Tryz.func128, Tryz.ntmps128
    go_wp2
    go_ret
    exact ⟨ret_bool e0.out.symm, fun h => by rw [e0.out] at h; simp at h, C1.out⟩
  obtain ⟨tt1, tt2⟩ := toList_ne (z := T) (fun e => hT0 (by rw [e]; rfl))
  obtain ⟨f, hf⟩ : ∃ f : Bool, f = true ↔ T.size ≤ 28 := ⟨decide (T.size ≤ 28), by simp⟩
  have CF := hide (fun W => fitsSector_calls T f W hf (by unfold maxLen; omega))
  have HF := hide hf
  clear hf
  cases f with
  | false =>
    have e0 : Hid (y = false) := by
      show y = false
      cases y with
      | false => rfl
      | true => exact absurd (HF.out.2 (HY.out.1 rfl).2.2) (by simp)
    clear hT0
    go_enter Tryz.func128, Tryz.ntmps128
    go_wp2_with fail
    refine (CF.out _).mono ?_
    rintro e w1 ⟨rfl, rfl⟩
    go_wp2
    go_ret
    exact ⟨ret_bool e0.out.symm, fun h => by rw [e0.out] at h; simp at h, C1.out⟩
  | true =>
  have e0 : Hid (y = true) := HY.out.2 ⟨rfl, by omega, HF.out.1 rfl⟩
  clear HY
  go_enter Tryz.func128, Tryz.ntmps128
  go_wp2_with fail
  refine (CF.out _).mono ?_
  rintro e w1 ⟨rfl, rfl⟩
  clear hb1
  go_wp2
  have hw1 := hide (show w.heap.size < (w.alloc (.cells #[.slice (some ⟨gp, 0, none⟩) n cp, .slice (some ⟨gh, 0, none⟩) n ch, .slice (some ⟨gb, 0, none⟩) n cb] 26)).heap.size from X1.out.lt)
  generalize w.alloc (.cells #[.slice (some ⟨gp, 0, none⟩) n cp, .slice (some ⟨gh, 0, none⟩) n ch, .slice (some ⟨gb, 0, none⟩) n cb] 26) = W1 at *
  refine wp_region_noPanic ?_
  refine wp_region_held_drew (S := fun w' => w'.cell? ⟨w.heap.size, 1, none⟩ = some (.slice (some ⟨gh, 0, none⟩) n ch)) (by kernel_rfl) ((X1.out.below (Below.refl _ _).drew).c3.2.1) (fun hHeld => ?_)
  have BV := hide (Below.refl W1.heap.size W1).drew
  generalize W1.drew = V0 at *
  refine wpAnyH_take (i := 0) (v := ?v1) rfl (by kernel_rfl) (by kernel_rfl) (by kernel_rfl) (fun _ _ _ h => h) (Or.inl ⟨by rfl, ?hy1⟩) (by assumption) ?rest1
  case hy1 => (intro w' hSw; dsimp only [List.getElem_toArray, List.getElem_cons_zero, List.getElem_cons_succ] at hSw ⊢; go_simp; try (with_reducible rfl))
  try simp only [Act.put, List.getElem_toArray, List.getElem_cons_zero, List.getElem_cons_succ, List.setIfInBounds_toArray, List.set_cons_zero, List.set_cons_succ]
  refine wpAnyH_take (i := 1) (v := ?v2) rfl (by kernel_rfl) (by kernel_rfl) (by kernel_rfl) (fun _ _ _ h => h) (Or.inl ⟨by rfl, ?hy2⟩) (by assumption) ?rest2
  case hy2 => (intro w' hSw; dsimp only [List.getElem_toArray, List.getElem_cons_zero, List.getElem_cons_succ] at hSw ⊢; go_simp; try (with_reducible rfl))
  try simp only [Act.put, List.getElem_toArray, List.getElem_cons_zero, List.getElem_cons_succ, List.setIfInBounds_toArray, List.set_cons_zero, List.set_cons_succ]
  refine wpAnyH_take (i := 2) (v := ?v3) rfl (by kernel_rfl) (by kernel_rfl) (by kernel_rfl) (fun _ _ _ h => h) (Or.inl ⟨by rfl, ?hy3⟩) (by assumption) ?rest3
  case hy3 => (intro w' hSw; dsimp only [List.getElem_toArray, List.getElem_cons_zero, List.getElem_cons_succ] at hSw ⊢; go_simp; try (with_reducible rfl))
  try simp only [Act.put, List.getElem_toArray, List.getElem_cons_zero, List.getElem_cons_succ, List.setIfInBounds_toArray, List.set_cons_zero, List.set_cons_succ]
  refine wpAnyH_take (i := 3) (v := ?v4) rfl (by kernel_rfl) (by kernel_rfl) (by kernel_rfl) (fun _ _ _ h => h) (Or.inl ⟨by rfl, ?hy4⟩) (by assumption) ?rest4
  case hy4 => (intro w' hSw; dsimp only [List.getElem_toArray, List.getElem_cons_zero, List.getElem_cons_succ] at hSw ⊢; go_simp; try (with_reducible rfl))
  try simp only [Act.put, List.getElem_toArray, List.getElem_cons_zero, List.getElem_cons_succ, List.setIfInBounds_toArray, List.set_cons_zero, List.set_cons_succ]
  refine wpAnyH_ready (rs := [4]) (by kernel_rfl) (by simp) ?_
  refine AllReadyH.cons rfl (fun K hK => ?_) AllReadyH.nil
  dsimp only [List.getElem_toArray, List.getElem_cons_zero, List.getElem_cons_succ]
  go_simp
  refine (clone_calls T _ hT).mono ?_
  rintro e' u1 ⟨rfl, bb⟩
  have B2 := hide (BV.out.trans (bb.mono BV.out.size))
  clear bb hHeld BV
  refine hK.out _ _ ((X1.out.below B2.out).c3.2.1) (fun hHeld => ?_)
  clear hK K
  try simp only [Act.put, List.getElem_toArray, List.getElem_cons_zero, List.getElem_cons_succ, List.setIfInBounds_toArray, List.set_cons_zero, List.set_cons_succ]
  refine wpAnyH_take (i := 5) (v := ?v5) rfl (by kernel_rfl) (by kernel_rfl) (by kernel_rfl) (fun _ _ _ h => h) (Or.inl ⟨by rfl, ?hy5⟩) (by assumption) ?rest5
  case hy5 => (intro w' hSw; dsimp only [List.getElem_toArray, List.getElem_cons_zero, List.getElem_cons_succ] at hSw ⊢; go_simp; try (with_reducible rfl))
  try simp only [Act.put, List.getElem_toArray, List.getElem_cons_zero, List.getElem_cons_succ, List.setIfInBounds_toArray, List.set_cons_zero, List.set_cons_succ]
  refine wpAnyH_ready (rs := [6]) (by kernel_rfl) (by simp) ?_
  refine AllReadyH.cons rfl (fun K hK => ?_) AllReadyH.nil
  have d2 := D1.out.below B2.out
  obtain ⟨q1, q2⟩ := d2.cellH LH.out k hk
  obtain ⟨dp, cpp⟩ := d2.putH LH.out k T (by unfold maxLen; omega)
  have DP := hide dp
  have CP := hide ((C1.out.trans (Chg.ofBelow B2.out)).trans cpp)
  have cN := ((X1.out.below B2.out).chg cpp (.inr hhi)).c3.2.1
  clear d2 dp cpp hHeld
  dsimp only [List.getElem_toArray, List.getElem_cons_zero, List.getElem_cons_succ]
  go_simp
  refine hK.out _ _ (cN) (fun hHeld => ?_)
  clear hK K
  try simp only [Act.put, List.getElem_toArray, List.getElem_cons_zero, List.getElem_cons_succ, List.setIfInBounds_toArray, List.set_cons_zero, List.set_cons_succ]
  refine wpAnyH_done (by kernel_rfl) ?_ _
  refine NoPanic.normal ?_
  go_wp2
  go_ret
  exact ⟨ret_bool e0.out.symm, fun _ => DP.out, CP.out⟩

end Go.Proofs.YtbgadbokejaomaaGreatDoor

namespace Go.Proofs.YtbgadbokejaomaaGreatDoor
open Go.RowKit
set_option linter.unusedVariables false

set_option linter.unusedSimpArgs false in
set_option maxRecDepth 100000 in
set_option maxHeartbeats 1600000 in
theorem doStep_1 (p h b vk : Value) (P H : List ByteArray) (B : List Bool) (ks : List Int) (lo hi n : Nat) (k : Nat) (T : ByteArray) (y : Bool) (w : World) (d : DskV w lo hi p h b P H B) (hhi : hi ≤ w.heap.size) (hP : P.length = n) (hH : H.length = n) (hB : B.length = n) (hn : 0 < n ∧ n ≤ 24) (kv : ∀ w', Chg lo hi w w' → Rd w' vk ks) (hk : k < n) (hT : T.size ≤ 1048576) (hy : y = true ↔ hoOk B k T) :
    Calls Tryz.prog 84 #[.agg #[p, h, b], .agg #[.int .i64 1, .int .i64 (k : Int), .string T, vk]] w fun e w' => e = .returned (.bool y) ∧ (y = true → DskV w' lo hi p h b P (H.set k T) B) ∧ Chg lo hi w w' := by
  obtain ⟨gp, cp, gh, ch, gb, cb, rfl, rfl, rfl, n1, n2, n3, ⟨t1, t2, t3⟩, _⟩ := d.blocks hP hH hB hn.1
  have KV := hide kv
  obtain ⟨av, cv, ev, _, _⟩ := (kv w (Chg.refl _ _ _)).sl
  subst ev
  obtain ⟨W0, e0⟩ : ∃ W0, W0 = (w.alloc (.cells #[.slice (some ⟨gp, 0, none⟩) n cp, .slice (some ⟨gh, 0, none⟩) n ch, .slice (some ⟨gb, 0, none⟩) n cb] 26)).alloc (.cells #[.int .i64 1, .int .i64 (k : Int), .string T, .slice av ks.length cv] 105) := ⟨_, rfl⟩
  have b0 : Below w.heap.size w W0 := by rw [e0]; exact (below_box w _).trans ((below_box _ _).mono (by simp))
  have x0 : BoxAt W0 w.heap.size #[.slice (some ⟨gp, 0, none⟩) n cp, .slice (some ⟨gh, 0, none⟩) n ch, .slice (some ⟨gb, 0, none⟩) n cb] 26 := by rw [e0]; exact (BoxAt.new w _ _).below (below_box _ _)
  have y0 : BoxAt W0 (w.heap.size + 1) #[.int .i64 1, .int .i64 (k : Int), .string T, .slice av ks.length cv] 105 := by
    rw [e0]
    have := BoxAt.new (w.alloc (.cells #[.slice (some ⟨gp, 0, none⟩) n cp, .slice (some ⟨gh, 0, none⟩) n ch, .slice (some ⟨gb, 0, none⟩) n cb] 26)) #[.int .i64 1, .int .i64 (k : Int), .string T, .slice av ks.length cv] 105
    simpa only [World.size_alloc] using this
  have s0 : w.heap.size + 1 < W0.heap.size := y0.lt
  have E0 := hide e0.symm
  have C0 := hide (Chg.ofBelow (lo := lo) (hi := hi) b0)
  have X0 := hide x0
  have Y0 := hide y0
  have D0 := hide (d.below b0)
  have LP := hide hP
  have LH := hide hH
  have LB := hide hB
  have KV0 : Hid (∀ w', Chg lo hi W0 w' → Rd w' (.slice av ks.length cv) ks) := fun w' hc => KV.out _ (C0.out.trans hc)
  clear kv d b0 x0 y0 e0 hP hH hB
  have HY := hide hy
  clear hy
  have hk0 : (0 : Int) ≤ (k : Int) := by omega
  have hk' : (k : Int) < (n : Int) := by omega
  go_enter Tryz.func84, Tryz.ntmps84
  go_wp2_with fail
  rw [E0.out]
  refine (hasSector_yes _ _ _ _ _ _ _ hk0 hk' (by omega)).mono ?_
  rintro e u1 ⟨rfl, q⟩
  have D1 := hide (D0.out.below q)
  have C1 := hide (C0.out.trans (Chg.ofBelow q))
  have s1 := q.size
  obtain ⟨c0, c1, c2⟩ := (X0.out.below q).c3
  obtain ⟨y0, y1, y2, y3⟩ := (Y0.out.below q).c4
  clear q
  go_wp2_with fail
  refine (holdText_calls _ _ _ P H B lo hi n k T y _ D1.out (by omega) LP.out LH.out LB.out hn hk hT HY.out).mono ?_
  rintro e u2 ⟨rfl, d2, c2'⟩
  have D2 := hide d2
  have C2 := hide (C1.out.trans c2')
  clear d2 c2' c0 c1 c2 y0 y1 y2 y3
  go_wp2
  go_ret
  exact ⟨rfl, D2.out, C2.out⟩

end Go.Proofs.YtbgadbokejaomaaGreatDoor

namespace Go.Proofs.YtbgadbokejaomaaGreatDoor
open Go.RowKit
set_option linter.unusedVariables false

end Go.Proofs.YtbgadbokejaomaaGreatDoor

namespace Go.Proofs.YtbgadbokejaomaaGreatDoor
open Go.RowKit
set_option linter.unusedVariables false

end Go.Proofs.YtbgadbokejaomaaGreatDoor

namespace Go.Proofs.YtbgadbokejaomaaGreatDoor
open Go.RowKit
set_option linter.unusedVariables false

theorem Hand.three (w : World) (c1 c2 c3 : Array Value) (T1 T2 T3 : TypeId) : Hand w (((w.alloc (.cells c1 T1)).alloc (.cells c2 T2)).alloc (.cells c3 T3)) [TBox (w.heap.size + 1 + 1) c3 T3, TBox (w.heap.size + 1) c2 T2, TBox w.heap.size c1 T1] := by
  have h := (((Hand.start w).box c1 T1).box c2 T2).box c3 T3
  simpa only [World.size_alloc] using h
end Go.Proofs.YtbgadbokejaomaaGreatDoor

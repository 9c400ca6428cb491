/-
  Sectors read: the program's ReadAll and its model's, call by call. No condition but a bound on the texts' lengths.
-/
import Derived.Test.YtpgmocogffolaaaFra
namespace Go.Proofs.Ytpgmocogffolaaa
open Go.RowKit
set_option linter.unusedVariables false

/-- What is read of the i-th sector. -/
def cks (xs : List ByteArray) (k p l : Int) (i : Nat) : Fr := ckR (xs.getD i ⟨#[]⟩) k (plc p i) l
/-- The code of the first one that is not right. -/
def bad (f : Nat → Fr) : Nat → Nat → Option Int
  | _, 0 => none
  | i, n + 1 => if (f i).ok = true then bad f (i + 1) n else some (f i).code
theorem bad_first (f : Nat → Fr) : ∀ (n i j : Nat), i ≤ j → j < i + n → (∀ m, i ≤ m → m < j → (f m).ok = true) → (f j).ok = false → bad f i n = some (f j).code
  | 0, i, j, h1, h2, _, _ => by omega
  | n + 1, i, j, h1, h2, h3, h4 => by
    unfold bad
    by_cases e : i = j
    · subst e
      rw [if_neg (by rw [h4]; simp)]
    · rw [if_pos (h3 i (Nat.le_refl _) (by omega))]
      exact bad_first f n (i + 1) j (by omega) (by omega) (fun m hm hm2 => h3 m (by omega) hm2) h4
theorem bad_none (f : Nat → Fr) : ∀ (n i : Nat), (∀ m, i ≤ m → m < i + n → (f m).ok = true) → bad f i n = none
  | 0, _, _ => rfl
  | n + 1, i, h => by
    unfold bad
    rw [if_pos (h i (Nat.le_refl _) (by omega))]
    exact bad_none f n (i + 1) (fun m h1 h2 => h m (by omega) (by omega))
/-- The bodies that are read. -/
def bds (xs : List ByteArray) (k p l : Int) : List ByteArray := (List.range xs.length).map fun i => (cks xs k p l i).B
theorem bds_length (xs : List ByteArray) (k p l : Int) : (bds xs k p l).length = xs.length := by simp [bds]
theorem bds_getD (xs : List ByteArray) (k p l : Int) (i : Nat) (h : i < xs.length) : (bds xs k p l).getD i ⟨#[]⟩ = (cks xs k p l i).B := by simp [bds, h]
def raR (xs : List ByteArray) (k p l : Int) : ByteArray × Int × Bool :=
  if 1 ≤ xs.length ∧ xs.length ≤ 10 then
    match bad (cks xs k p l) 0 xs.length with
    | some c => (⟨#[]⟩, c, false)
    | none => if (jnbR (bds xs k p l)).2 = true then ((jnbR (bds xs k p l)).1, 0, true) else (⟨#[]⟩, 3, false)
  else (⟨#[]⟩, 0, false)
theorem ra_no {xs : List ByteArray} {k p l : Int} (h : ¬ (1 ≤ xs.length ∧ xs.length ≤ 10)) : raR xs k p l = (⟨#[]⟩, 0, false) := if_neg h
theorem ra_bad {xs : List ByteArray} {k p l : Int} (h : 1 ≤ xs.length ∧ xs.length ≤ 10) (i : Nat) (hi : i < xs.length) (h1 : ∀ j, j < i → (cks xs k p l j).ok = true) (h2 : (cks xs k p l i).ok = false) : raR xs k p l = (⟨#[]⟩, (cks xs k p l i).code, false) := by
  unfold raR
  rw [if_pos h, bad_first _ xs.length 0 i (by omega) (by omega) (fun m _ hm => h1 m hm) h2]
theorem ra_end {xs : List ByteArray} {k p l : Int} (h : 1 ≤ xs.length ∧ xs.length ≤ 10) (h1 : ∀ j, j < xs.length → (cks xs k p l j).ok = true) : raR xs k p l = if (jnbR (bds xs k p l)).2 = true then ((jnbR (bds xs k p l)).1, 0, true) else (⟨#[]⟩, 3, false) := by
  unfold raR
  rw [if_pos h, bad_none _ xs.length 0 (fun m _ hm => h1 m (by omega))]
theorem rdR_B (s : ByteArray) : (rdR s).B.size ≤ 16 := by
  unfold rdR
  split
  · split
    · split
      · rename_i h
        show (ofN (bodyOf (bs s))).size ≤ 16
        rw [ofN_size]
        unfold bodyOf
        rw [List.length_take]
        omega
      · show 0 ≤ 16; omega
    · show 0 ≤ 16; omega
  · show 0 ≤ 16; omega
theorem ckR_B (s : ByteArray) (k p l : Int) : (ckR s k p l).B.size ≤ 16 := by
  unfold ckR
  split
  · split
    · split
      · split
        · exact rdR_B s
        · show 0 ≤ 16; omega
      · show 0 ≤ 16; omega
    · show 0 ≤ 16; omega
  · show 0 ≤ 16; omega
theorem bds_small (xs : List ByteArray) (k p l : Int) : ∀ s ∈ bds xs k p l, s.size ≤ maxLen := by
  intro s hs
  simp only [bds, List.mem_map, List.mem_range] at hs
  obtain ⟨i, _, rfl⟩ := hs
  have := ckR_B (xs.getD i ⟨#[]⟩) k (plc p i) l
  unfold maxLen cks
  omega

set_option maxRecDepth 100000 in
set_option maxHeartbeats 1600000 in
theorem sReadAll_calls (v : Value) (xs : List ByteArray) (k p l : Int) (w : World) (h : RdT w v xs) :
    Calls Try.prog 61 #[v, .int .i64 k, .int .i64 p, .int .i64 l] w fun e w' => e = .returned (.tuple #[.string (raR xs k p l).1, .int .i64 (raR xs k p l).2.1, .bool (raR xs k p l).2.2]) ∧ Below w.heap.size w w' := by
  obtain ⟨a, cap, rfl, hl1, h2, h4, h3⟩ := h
  have hm : xs.length ≤ maxLen := by omega
  unfold maxLen at hm
  by_cases hn : 1 ≤ xs.length ∧ xs.length ≤ 10
  case neg =>
    rw [ra_no hn]
    clear h3 h4
    go_enter Try.func61, Try.ntmps61
    go_wp2_with fail
    refine (l1In_no _ _ _ _ (by omega)).mono ?_
    rintro e w1 ⟨rfl, rfl⟩
    go_wp2
    go_ret3
    exact ⟨rfl, Below.refl _ _⟩
  have BAD := hide (ra_bad (k := k) (p := p) (l := l) hn)
  have END := hide (ra_end (k := k) (p := p) (l := l) hn)
  obtain ⟨hn1, hn2⟩ := hn
  generalize raR xs k p l = ra at BAD END ⊢
  have H3 := hide h3
  have H4 := hide h4
  clear h3 h4 h2
  go_enter Try.func61, Try.ntmps61
  go_wp2_with fail
  refine (l1In_yes _ _ _ _ (by omega) (by omega)).mono ?_
  rintro e w1 ⟨rfl, rfl⟩
  go_wp2
  go_loopw [11, 25] (fun vo vi wr => ∃ i : Nat, i ≤ xs.length ∧ vi = .int .i64 i ∧ OwnT wr w.heap.size vo ((bds xs k p l).take i) ∧ (∀ j, j < i → (cks xs k p l j).ok = true) ∧ Below w.heap.size w wr) (fun _ vi _ => xs.length - (intOf vi).toNat)
  case atStart => exact ⟨0, Nat.zero_le _, rfl, ownT_nil _ _, fun j hj => by omega, Below.refl _ _⟩
  case round =>
    obtain ⟨i, hi, rfl, hown, hall, hb⟩ := hrel
    have HB := hide hb
    have HA := hide hall
    have OW := hide hown
    obtain ⟨a0, cap0, rfl⟩ := own_slice hown
    have hpl : ((bds xs k p l).take i).length = i := by rw [List.length_take, bds_length]; omega
    have hge := own_ge hown
    have how : wr.ownsRow w.heap.size 9 1 (.slice a0 ((bds xs k p l).take i).length cap0) ((bds xs k p l).take i).length (((bds xs k p l).take i).map Value.string) := hown
    rw [hpl] at hge how
    rw [hpl]
    have O := hide how
    have GE := hide hge
    clear hown hge how hall
    by_cases hlt : i < xs.length
    · rcases H3.out with h3 | ⟨b, off, rfl, hbs, hc⟩
      · subst h3; simp at hlt
      have hc1 : wr.cell? ⟨b, off + i, none⟩ = some (.string (xs.getD i ⟨#[]⟩)) := (hb.cell (p := ⟨b, off + i, none⟩) hbs).trans (hc i hlt)
      have hz : (xs.getD i ⟨#[]⟩).size ≤ maxLen := by
        apply H4.out
        rw [List.getD_eq_getElem?_getD, List.getElem?_eq_getElem hlt]
        exact List.getElem_mem hlt
      obtain ⟨z, hzz⟩ : ∃ z, z = xs.getD i ⟨#[]⟩ := ⟨_, rfl⟩
      rw [← hzz] at hc1 hz
      have HZ := hide hzz
      have HZS := hide hz
      have hlt' : (i : Int) < (xs.length : Int) := by omega
      clear hzz hc hb hz hpl
      go_wp2_with fail
      have hq : Hid (plc p i = wrap64 (p + (i : Int))) := rfl
      generalize wrap64 (p + (i : Int)) = q at hq ⊢
      refine (sCheckFrame_calls z k q l _ HZS.out).mono ?_
      rintro e w2 ⟨rfl, b2⟩
      have hR : Hid (ckR z k q l = cks xs k p l i) := by
        show _ = _
        unfold cks
        rw [hq.out, HZ.out]
      generalize ckR z k q l = R at hR ⊢
      obtain ⟨K, A, E, T, code, ok⟩ := R
      simp only []
      have B2 := hide (HB.out.trans (b2.mono HB.out.size))
      have o2 : w2.ownsRow w.heap.size 9 1 (.slice a0 i cap0) i (((bds xs k p l).take i).map Value.string) := by
        have hO : OwnT wr w.heap.size (.slice a0 i cap0) ((bds xs k p l).take i) := by
          show World.ownsRow _ _ _ _ _ ((bds xs k p l).take i).length _
          rw [List.length_take, bds_length, Nat.min_eq_left hi]
          exact O.out
        have := hO.below b2
        unfold OwnT at this
        rwa [List.length_take, bds_length, Nat.min_eq_left hi] at this
      have O2 := hide o2
      clear o2 b2 hc1
      have B3 := hide (B2.out.alloc B2.out.size (.cells #[.int .i64 K, .int .i64 A, .int .i64 E, .string T] 69))
      have O3 := hide (O2.out.alloc (.cells #[.int .i64 K, .int .i64 A, .int .i64 E, .string T] 69))
      cases ok with
      | false =>
        have er := BAD.out i hlt HA.out (by rw [← hR.out])
        rw [← hR.out] at er
        simp only [] at er
        subst er
        go_wp2
        go_ret3
        exact ⟨rfl, B3.out⟩
      | true =>
        have O4 := hide (O3.out.alloc (.cells #[.string T] 9))
        have hb4 : w.heap.size ≤ ((w2.alloc (.cells #[.int .i64 K, .int .i64 A, .int .i64 E, .string T] 69)).alloc (.cells #[.string T] 9)).heap.size := by have := B2.out.size; simp; omega
        have hc4 : ((w2.alloc (.cells #[.int .i64 K, .int .i64 A, .int .i64 E, .string T] 69)).alloc (.cells #[.string T] 9)).cell? ⟨w2.heap.size + 1, 0, none⟩ = some (.string T) := by rw [cell_of_row _ (w2.heap.size + 1) 0 _ _ _ (heap_alloc2_new w2 _ _)]; rfl
        go_wp2_with (at_builtin; refine wpList_append_text1 rfl _ _ rfl w.heap.size _ i ((bds xs k p l).take i) T rfl O4.out (w2.heap.size + 1) rfl hc4 (by omega) hb4 ?_)
        intro v' w4 o4 g4
        have O5 := hide o4
        have B5 := hide (((B3.out.alloc B3.out.size (.cells #[.string T] 9))).grown g4 (by have := B3.out.size; simp at this; simp; omega) GE.out)
        clear o4 g4 hc4 hb4 O4
        have hst : Hid ((bds xs k p l).take (i + 1) = (bds xs k p l).take i ++ [T]) := by
          show _ = _
          have hl : i < (bds xs k p l).length := by rw [bds_length]; exact hlt
          have := bds_getD xs k p l i hlt
          rw [List.getD_eq_getElem?_getD, List.getElem?_eq_getElem hl, ← hR.out] at this
          rw [List.take_succ_eq_append_getElem hl]
          congr 2
        go_wp2
        go_roundw
        case rel =>
          refine ⟨i + 1, by omega, by go_num, ?_, fun j hj => ?_, B5.out⟩
          · rw [hst.out]
            exact O5.out
          · by_cases e : j = i
            · subst e; rw [← hR.out]
            · exact HA.out j (by omega)
        case measure => simp [intOf]; omega
    · obtain rfl : i = xs.length := by omega
      have er := END.out HA.out
      have ef : (bds xs k p l).take xs.length = bds xs k p l := List.take_of_length_le (by rw [bds_length]; exact Nat.le_refl _)
      have ow := OW.out
      rw [ef] at ow
      have rb := ow.rd (bds_small xs k p l)
      rw [bds_length] at rb
      have RB := hide rb
      clear rb
      have ER := hide er
      clear hb er ef ow hpl
      go_wp2_with fail
      refine (sJoinBody_calls _ (bds xs k p l) _ RB.out).mono ?_
      rintro e w2 ⟨rfl, b2⟩
      have B2 := hide (HB.out.trans (b2.mono HB.out.size))
      clear b2
      have er := ER.out
      generalize jnbR (bds xs k p l) = J at er ⊢
      obtain ⟨T, ok⟩ := J
      cases ok with
      | false =>
        rw [if_neg (by simp)] at er
        subst er
        go_wp2
        go_ret3
        exact ⟨rfl, B2.out⟩
      | true =>
        rw [if_pos rfl] at er
        subst er
        go_wp2
        go_ret3
        exact ⟨rfl, B2.out⟩

set_option maxRecDepth 100000 in
set_option maxHeartbeats 1600000 in
theorem readAll_calls (v : Value) (xs : List ByteArray) (k p l : Int) (w : World) (h : RdT w v xs) :
    Calls Try.prog 63 #[v, .int .i64 k, .int .i64 p, .int .i64 l] w fun e w' => e = .returned (.tuple #[.string (raR xs k p l).1, .int .i64 (raR xs k p l).2.1, .bool (raR xs k p l).2.2]) ∧ Below w.heap.size w w' := by
  obtain ⟨a, cap, rfl, hl1, h2, h4, h3⟩ := h
  have hm : xs.length ≤ maxLen := by omega
  unfold maxLen at hm
  by_cases hn : 1 ≤ xs.length ∧ xs.length ≤ 10
  case neg =>
    rw [ra_no hn]
    clear h3 h4
    go_enter Try.func63, Try.ntmps63
    go_wp2_with fail
    refine (hasBodies_no _ _ (by omega)).mono ?_
    rintro e w1 ⟨rfl, rfl⟩
    go_wp2
    go_ret3
    exact ⟨rfl, Below.refl _ _⟩
  have BAD := hide (ra_bad (k := k) (p := p) (l := l) hn)
  have END := hide (ra_end (k := k) (p := p) (l := l) hn)
  obtain ⟨hn1, hn2⟩ := hn
  generalize raR xs k p l = ra at BAD END ⊢
  have H3 := hide h3
  have H4 := hide h4
  clear h3 h4 h2
  go_enter Try.func63, Try.ntmps63
  go_wp2_with fail
  refine (hasBodies_yes _ _ (by omega) (by omega)).mono ?_
  rintro e w1 ⟨rfl, rfl⟩
  go_wp2_with (at_make; refine wpList_make_texts rfl _ _ rfl w.heap.size _ _ xs.length rfl rfl (by omega) (by omega) (by omega) (Nat.le_refl _) ?_)
  intro w0 hown0 hgrow0
  have E0 := hide hown0
  have G0 := hide (grown_none hgrow0)
  clear hown0 hgrow0
  go_wp2
  go_loopw [28] (fun vi wr => ∃ i : Nat, i ≤ xs.length ∧ vi = .int .i64 i ∧ wr.ownsRow w.heap.size 9 1 (.slice (some ⟨w.heap.size, 0, none⟩) xs.length xs.length) xs.length ((cpT (bds xs k p l) i).map Value.string) ∧ (∀ j, j < i → (cks xs k p l j).ok = true) ∧ Below w.heap.size w wr) (fun vi _ => xs.length - (intOf vi).toNat)
  case atStart =>
    refine ⟨0, Nat.zero_le _, rfl, ?_, fun j hj => by omega, G0.out⟩
    rw [cpT_zero, bds_length]
    have := E0.out
    unfold OwnT at this
    rwa [List.length_replicate] at this
  case round =>
    obtain ⟨i, hi, rfl, hown, hall, hb⟩ := hrel
    have HB := hide hb
    have HA := hide hall
    have O := hide hown
    clear hown hall
    by_cases hlt : i < xs.length
    · rcases H3.out with h3 | ⟨b, off, rfl, hbs, hc⟩
      · subst h3; simp at hlt
      have hc1 : wr.cell? ⟨b, off + i, none⟩ = some (.string (xs.getD i ⟨#[]⟩)) := (hb.cell (p := ⟨b, off + i, none⟩) hbs).trans (hc i hlt)
      have hz : (xs.getD i ⟨#[]⟩).size ≤ maxLen := by
        apply H4.out
        rw [List.getD_eq_getElem?_getD, List.getElem?_eq_getElem hlt]
        exact List.getElem_mem hlt
      obtain ⟨z, hzz⟩ : ∃ z, z = xs.getD i ⟨#[]⟩ := ⟨_, rfl⟩
      rw [← hzz] at hc1 hz
      have HZ := hide hzz
      have HZS := hide hz
      have hlt' : (i : Int) < (xs.length : Int) := by omega
      clear hzz hc hb hz
      go_wp2_with fail
      have hq : Hid (plc p i = wrap64 (p + (i : Int))) := rfl
      generalize wrap64 (p + (i : Int)) = q at hq ⊢
      refine (checkFrame_calls z k q l _ HZS.out).mono ?_
      rintro e w2 ⟨rfl, b2⟩
      have hR : Hid (ckR z k q l = cks xs k p l i) := by
        show _ = _
        unfold cks
        rw [hq.out, HZ.out]
      generalize ckR z k q l = R at hR ⊢
      obtain ⟨K, A, E, T, code, ok⟩ := R
      simp only []
      have B2 := hide (HB.out.trans (b2.mono HB.out.size))
      have el : (cpT (bds xs k p l) i).length = xs.length := by rw [cpT_length _ i (by rw [bds_length]; exact hi), bds_length]
      have o2 : w2.ownsRow w.heap.size 9 1 (.slice (some ⟨w.heap.size, 0, none⟩) xs.length xs.length) xs.length ((cpT (bds xs k p l) i).map Value.string) := by
        have hO : OwnT wr w.heap.size (.slice (some ⟨w.heap.size, 0, none⟩) xs.length xs.length) (cpT (bds xs k p l) i) := by
          show World.ownsRow _ _ _ _ _ (cpT (bds xs k p l) i).length _
          rw [el]
          exact O.out
        have := hO.below b2
        unfold OwnT at this
        rwa [el] at this
      have hc2 : w2.frozen? ⟨w.heap.size, i, none⟩ = false := o2.frozenAt i
      have hlw : w.heap.size < w2.heap.size := by
        rcases o2.2 with ⟨h', _⟩ | ⟨g', cap', cur, h', _, hg, _⟩
        · simp at h'
        · simp at h'
          rw [h'.1]
          exact (Array.getElem?_eq_some_iff.1 hg).1
      obtain ⟨old, hc3⟩ : ∃ old, w2.cell? ⟨w.heap.size, i, none⟩ = some old := by
        rw [o2.cellAt i (by omega)]
        exact ⟨_, List.getElem?_eq_getElem (by rw [List.length_map, el]; exact hlt)⟩
      have hst := o2.stored i (.string T)
      have K4 := hide hst
      have hne : ¬ w2.heap.size = w.heap.size := by omega
      have hne' : ¬ w.heap.size = w2.heap.size := by omega
      have B3 := hide (B2.out.alloc B2.out.size (.cells #[.int .i64 K, .int .i64 A, .int .i64 E, .string T] 69))
      clear o2 b2 hc1 hst el
      cases ok with
      | false =>
        have er := BAD.out i hlt HA.out (by rw [← hR.out])
        rw [← hR.out] at er
        simp only [] at er
        subst er
        go_wp2
        go_ret3
        exact ⟨rfl, B3.out⟩
      | true =>
        have hT : Hid (T = (bds xs k p l).getD i ⟨#[]⟩) := by
          show _ = _
          rw [bds_getD xs k p l i hlt, ← hR.out]
        go_wp2
        refine ⟨⟨i + 1, by omega, by go_num, ?_, fun j hj => ?_, ?_⟩, by simp [intOf]; omega⟩
        · have := K4.out.1
          rw [← List.map_set, hT.out, cpT_step (bds xs k p l) i (by rw [bds_length]; exact hlt)] at this
          rw [hT.out]
          exact this.alloc _
        · by_cases e : j = i
          · subst e; rw [← hR.out]
          · exact HA.out j (by omega)
        · have b4 := B2.out.setCell (p := ⟨w.heap.size, i, none⟩) (Nat.le_refl _) (.string T)
          exact b4.alloc b4.size _
    · obtain rfl : i = xs.length := by omega
      have er := END.out HA.out
      have ef : cpT (bds xs k p l) xs.length = bds xs k p l := by
        have := cpT_end (bds xs k p l)
        rwa [bds_length] at this
      have oo := O.out
      rw [ef] at oo
      have rb : RdT wr (.slice (some ⟨w.heap.size, 0, none⟩) xs.length xs.length) (bds xs k p l) := by
        have ow : OwnT wr w.heap.size (.slice (some ⟨w.heap.size, 0, none⟩) xs.length xs.length) (bds xs k p l) := by
          show World.ownsRow _ _ _ _ _ (bds xs k p l).length _
          rw [bds_length]
          exact oo
        exact ow.rd (bds_small xs k p l)
      have RB := hide rb
      clear rb
      have ER := hide er
      clear hb er ef oo
      go_wp2_with fail
      refine (joinBody_calls _ (bds xs k p l) _ RB.out).mono ?_
      rintro e w2 ⟨rfl, b2⟩
      have B2 := hide (HB.out.trans (b2.mono HB.out.size))
      clear b2
      have er := ER.out
      generalize jnbR (bds xs k p l) = J at er ⊢
      obtain ⟨T, ok⟩ := J
      cases ok with
      | false =>
        rw [if_neg (by simp)] at er
        subst er
        go_wp2
        go_ret3
        exact ⟨rfl, B2.out⟩
      | true =>
        rw [if_pos rfl] at er
        subst er
        go_wp2
        go_ret3
        exact ⟨rfl, B2.out⟩
end Go.Proofs.Ytpgmocogffolaaa

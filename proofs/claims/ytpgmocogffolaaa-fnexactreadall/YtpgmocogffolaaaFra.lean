/-
  A text framed, and read again: the program's FrameAll and ReadAll and their models, call by call. No condition but a bound on the texts' lengths.
-/
import Derived.Test.YtpgmocogffolaaaJn
import Derived.Test.YtpgmocogffolaaaFre
namespace Go.Proofs.Ytpgmocogffolaaa
open Go.RowKit
set_option linter.unusedVariables false

/-- The place of the i-th sector. -/
def plc (p : Int) (i : Nat) : Int := wrap64 (p + (i : Int))
/-- The i-th sector of these pieces. -/
def sec (k p l : Int) (ys : List ByteArray) (i : Nat) : ByteArray × Bool := frR k (plc p i) l (ys.getD i ⟨#[]⟩)
def secs (k p l : Int) (ys : List ByteArray) : List ByteArray := (List.range ys.length).map fun i => (sec k p l ys i).1
abbrev allOk (k p l : Int) (ys : List ByteArray) : Prop := ∀ i, i < ys.length → (sec k p l ys i).2 = true
def faR (k p l : Int) (s : ByteArray) : List ByteArray × Bool :=
  if (splR s).2 = true ∧ allOk k p l (splR s).1 then (secs k p l (splR s).1, true) else ([], false)
theorem secs_length (k p l : Int) (ys : List ByteArray) : (secs k p l ys).length = ys.length := by simp [secs]
theorem secs_getD (k p l : Int) (ys : List ByteArray) (i : Nat) (h : i < ys.length) : (secs k p l ys).getD i ⟨#[]⟩ = (sec k p l ys i).1 := by simp [secs, h]
theorem frR_size (k p l : Int) (b : ByteArray) : (frR k p l b).1.size ≤ 28 := by
  unfold frR
  split
  · rename_i h
    rw [ofN_size, frB_length (by rw [bs_length]; exact h.2.2)]
    exact Nat.le_refl _
  · show 0 ≤ 28
    omega
theorem secs_small (k p l : Int) (ys : List ByteArray) : ∀ s ∈ secs k p l ys, s.size ≤ maxLen := by
  intro s hs
  simp only [secs, List.mem_map, List.mem_range] at hs
  obtain ⟨i, _, rfl⟩ := hs
  have := frR_size k (plc p i) l (ys.getD i ⟨#[]⟩)
  unfold maxLen sec
  omega
theorem faR_facts (k p l : Int) (s : ByteArray) : (faR k p l s).1.length ≤ 10 ∧ ∀ t ∈ (faR k p l s).1, t.size ≤ maxLen := by
  unfold faR
  split
  · refine ⟨?_, secs_small _ _ _ _⟩
    show (secs k p l (splR s).1).length ≤ 10
    rw [secs_length]
    exact (splR_facts s).1
  · exact ⟨by simp, by simp⟩

set_option maxRecDepth 100000 in
set_option maxHeartbeats 1600000 in
theorem sFrameAll_calls (k p l : Int) (s : ByteArray) (w : World) (hs : s.size ≤ maxLen) :
    Calls Try.prog 55 #[.int .i64 k, .int .i64 p, .int .i64 l, .string s] w fun e w' => ∃ v, e = .returned (.tuple #[v, .bool (faR k p l s).2]) ∧ OwnT w' w.heap.size v (faR k p l s).1 ∧ Below w.heap.size w w' := by
  have NO : Hid (¬ ((splR s).2 = true ∧ allOk k p l (splR s).1) → faR k p l s = ([], false)) := fun h => if_neg h
  have YES : Hid ((splR s).2 = true ∧ allOk k p l (splR s).1 → faR k p l s = (secs k p l (splR s).1, true)) := fun h => if_pos h
  obtain ⟨hn, hsm⟩ := splR_facts s
  have C1 := hide (fun W => sSplitBody_calls s W hs)
  generalize faR k p l s = fa at NO YES ⊢
  generalize (splR s).1 = ys at hn hsm C1 NO YES
  generalize (splR s).2 = ok at C1 NO YES
  have SM := hide hsm
  clear hsm
  cases ok with
  | false =>
    have er := NO.out (fun h => by cases h.1)
    subst er
    go_enter Try.func55, Try.ntmps55
    go_wp2_with fail
    refine (C1.out _).mono ?_
    rintro e w1 ⟨v1, rfl, o1, b1⟩
    have S1 := hide b1
    obtain ⟨a1, c1, rfl⟩ := own_slice o1
    clear b1 o1
    go_wp2
    go_ret2
    exact ⟨_, rfl, ownT_nil _ _, S1.out⟩
  | true =>
    go_enter Try.func55, Try.ntmps55
    go_wp2_with fail
    refine (C1.out _).mono ?_
    rintro e w1 ⟨v1, rfl, o1, b1⟩
    have S1 := hide b1
    have R1 := o1.rd SM.out
    obtain ⟨a1, c1, hv, hl1, h2, h4, h3⟩ := R1
    subst hv
    have H3 := hide h3
    clear b1 o1 h3 h4 h2
    go_wp2
    go_loopw [12, 26] (fun vo vi wr => ∃ i : Nat, i ≤ ys.length ∧ vi = .int .i64 i ∧ OwnT wr w1.heap.size vo ((secs k p l ys).take i) ∧ (∀ j, j < i → (sec k p l ys j).2 = true) ∧ Below w1.heap.size w1 wr) (fun _ vi _ => ys.length - (intOf vi).toNat)
    case atStart => exact ⟨0, Nat.zero_le _, rfl, ownT_nil _ _, fun j hj => by omega, Below.refl _ _⟩
    case round =>
      obtain ⟨i, hi, rfl, hown, hall, hb⟩ := hrel
      have HB := hide hb
      have HA := hide hall
      obtain ⟨a0, cap0, rfl⟩ := own_slice hown
      have hpl : ((secs k p l ys).take i).length = i := by rw [List.length_take, secs_length]; omega
      have hge := own_ge hown
      have how : wr.ownsRow w1.heap.size 9 1 (.slice a0 ((secs k p l ys).take i).length cap0) ((secs k p l ys).take i).length (((secs k p l ys).take i).map Value.string) := hown
      rw [hpl] at hge how
      rw [hpl]
      have O := hide how
      have GE := hide hge
      clear hown hge hpl how hall
      by_cases hlt : i < ys.length
      · rcases H3.out with h3 | ⟨b, off, rfl, hbs, hc⟩
        · subst h3; simp at hlt
        have hc1 : wr.cell? ⟨b, off + i, none⟩ = some (.string (ys.getD i ⟨#[]⟩)) := (hb.cell (p := ⟨b, off + i, none⟩) hbs).trans (hc i hlt)
        have hz : (ys.getD i ⟨#[]⟩).size ≤ maxLen := by
          apply SM.out
          rw [List.getD_eq_getElem?_getD, List.getElem?_eq_getElem hlt]
          exact List.getElem_mem hlt
        obtain ⟨z, hzz⟩ : ∃ z, z = ys.getD i ⟨#[]⟩ := ⟨_, rfl⟩
        rw [← hzz] at hc1 hz
        have HZ := hide hzz
        have HZS := hide hz
        have hlt' : (i : Int) < (ys.length : Int) := by omega
        clear hzz hc hb hz
        go_wp2_with fail
        have hq : Hid (plc p i = wrap64 (p + (i : Int))) := rfl
        generalize wrap64 (p + (i : Int)) = q at hq ⊢
        refine (sFrameBytes_calls k q l z _ HZS.out).mono ?_
        rintro e w2 ⟨rfl, b2⟩
        have hR : Hid (frR k q l z = sec k p l ys i) := by
          show _ = _
          unfold sec
          rw [hq.out, HZ.out]
        generalize frR k q l z = R at hR ⊢
        obtain ⟨T, ok⟩ := R
        simp only []
        have B2 := hide (HB.out.trans (b2.mono HB.out.size))
        have o2 : w2.ownsRow w1.heap.size 9 1 (.slice a0 i cap0) i (((secs k p l ys).take i).map Value.string) := by
          have hO : OwnT wr w1.heap.size (.slice a0 i cap0) ((secs k p l ys).take i) := by
            show World.ownsRow _ _ _ _ _ ((secs k p l ys).take i).length _
            rw [List.length_take, secs_length, Nat.min_eq_left hi]
            exact O.out
          have := hO.below b2
          unfold OwnT at this
          rwa [List.length_take, secs_length, Nat.min_eq_left hi] at this
        have O2 := hide o2
        clear o2 b2 hc1
        cases ok with
        | false =>
          have er := NO.out (fun h => by have := h.2 i hlt; rw [← hR.out] at this; cases this)
          subst er
          go_wp2
          go_ret2
          exact ⟨_, rfl, ownT_nil _ _, S1.out.trans (B2.out.mono S1.out.size)⟩
        | true =>
          have O3 := hide (O2.out.alloc (.cells #[.string T] 9))
          have hb3 : w1.heap.size ≤ (w2.alloc (.cells #[.string T] 9)).heap.size := by have := B2.out.size; simp; omega
          have hc3 : (w2.alloc (.cells #[.string T] 9)).cell? ⟨w2.heap.size, 0, none⟩ = some (.string T) := by rw [cell_of_row _ w2.heap.size 0 _ _ _ (heap_alloc_new w2 _)]; rfl
          go_wp2_with (at_builtin; refine wpList_append_text1 rfl _ _ rfl w1.heap.size _ i ((secs k p l ys).take i) T rfl O3.out w2.heap.size rfl hc3 (by omega) hb3 ?_)
          intro v' w4 o4 g4
          have O4 := hide o4
          have B4 := hide (((B2.out.alloc B2.out.size (.cells #[.string T] 9))).grown g4 (by have := B2.out.size; simp; omega) GE.out)
          clear o4 g4 hc3 hb3 O3
          have hst : Hid ((secs k p l ys).take (i + 1) = (secs k p l ys).take i ++ [T]) := by
            show _ = _
            have hl : i < (secs k p l ys).length := by rw [secs_length]; exact hlt
            have := secs_getD k p l ys i hlt
            rw [List.getD_eq_getElem?_getD, List.getElem?_eq_getElem hl, ← hR.out] at this
            rw [List.take_succ_eq_append_getElem hl]
            congr 2
          go_wp2
          go_roundw
          case rel =>
            refine ⟨i + 1, by omega, by go_num, ?_, fun j hj => ?_, B4.out⟩
            · rw [hst.out]
              exact O4.out
            · by_cases e : j = i
              · subst e; rw [← hR.out]
              · exact HA.out j (by omega)
          case measure => simp [intOf]; omega
      · obtain rfl : i = ys.length := by omega
        have er := YES.out ⟨by simp, HA.out⟩
        subst er
        clear hb
        go_wp2
        go_ret2
        refine ⟨_, rfl, ?_, S1.out.trans (HB.out.mono S1.out.size)⟩
        have := O.out
        rw [List.take_of_length_le (by rw [secs_length]; exact Nat.le_refl _)] at this
        show World.ownsRow _ _ _ _ _ (secs k p l ys).length _
        rw [secs_length]
        exact ownsRow_less this S1.out.size

set_option maxRecDepth 100000 in
set_option maxHeartbeats 1600000 in
theorem frameAll_calls (k p l : Int) (s : ByteArray) (w : World) (hs : s.size ≤ maxLen) :
    Calls Try.prog 56 #[.int .i64 k, .int .i64 p, .int .i64 l, .string s] w fun e w' => ∃ v, e = .returned (.tuple #[v, .bool (faR k p l s).2]) ∧ OwnT w' w.heap.size v (faR k p l s).1 ∧ Below w.heap.size w w' := by
  have NO : Hid (¬ ((splR s).2 = true ∧ allOk k p l (splR s).1) → faR k p l s = ([], false)) := fun h => if_neg h
  have YES : Hid ((splR s).2 = true ∧ allOk k p l (splR s).1 → faR k p l s = (secs k p l (splR s).1, true)) := fun h => if_pos h
  obtain ⟨hn, hsm⟩ := splR_facts s
  have C1 := hide (fun W => splitBody_calls s W hs)
  generalize faR k p l s = fa at NO YES ⊢
  generalize (splR s).1 = ys at hn hsm C1 NO YES
  generalize (splR s).2 = ok at C1 NO YES
  have SM := hide hsm
  clear hsm
  cases ok with
  | false =>
    have er := NO.out (fun h => by cases h.1)
    subst er
    go_enter Try.func56, Try.ntmps56
    go_wp2_with fail
    refine (C1.out _).mono ?_
    rintro e w1 ⟨v1, rfl, o1, b1⟩
    have S1 := hide b1
    obtain ⟨a1, c1, rfl⟩ := own_slice o1
    clear b1 o1
    go_wp2
    go_ret2
    exact ⟨_, rfl, ownT_nil _ _, S1.out⟩
  | true =>
    go_enter Try.func56, Try.ntmps56
    go_wp2_with fail
    refine (C1.out _).mono ?_
    rintro e w1 ⟨v1, rfl, o1, b1⟩
    have S1 := hide b1
    have R1 := o1.rd SM.out
    obtain ⟨a1, c1, hv, hl1, h2, h4, h3⟩ := R1
    subst hv
    have H3 := hide h3
    clear b1 o1 h3 h4 h2
    go_wp2_with (at_make; refine wpList_make_texts rfl _ _ rfl w1.heap.size _ _ ys.length rfl rfl (by omega) (by omega) (by omega) (Nat.le_refl _) ?_)
    intro w0 hown0 hgrow0
    have E0 := hide hown0
    have G0 := hide (grown_none hgrow0)
    clear hown0 hgrow0
    go_wp2
    go_loopw [11, 27] (fun vk vi wr => ∃ i : Nat, i ≤ ys.length ∧ vi = .int .i64 i ∧ vk = .bool true ∧ wr.ownsRow w1.heap.size 9 1 (.slice (some ⟨w1.heap.size, 0, none⟩) ys.length ys.length) ys.length ((cpT (secs k p l ys) i).map Value.string) ∧ (∀ j, j < i → (sec k p l ys j).2 = true) ∧ Below w1.heap.size w1 wr) (fun _ vi _ => ys.length - (intOf vi).toNat)
    case atStart =>
      refine ⟨0, Nat.zero_le _, rfl, rfl, ?_, fun j hj => by omega, G0.out⟩
      rw [cpT_zero, secs_length]
      have := E0.out
      unfold OwnT at this
      rwa [List.length_replicate] at this
    case round =>
      obtain ⟨i, hi, rfl, rfl, hown, hall, hb⟩ := hrel
      have HB := hide hb
      have HA := hide hall
      have O := hide hown
      clear hown hall
      by_cases hlt : i < ys.length
      · rcases H3.out with h3 | ⟨b, off, rfl, hbs, hc⟩
        · subst h3; simp at hlt
        have hc1 : wr.cell? ⟨b, off + i, none⟩ = some (.string (ys.getD i ⟨#[]⟩)) := (hb.cell (p := ⟨b, off + i, none⟩) hbs).trans (hc i hlt)
        have hz : (ys.getD i ⟨#[]⟩).size ≤ maxLen := by
          apply SM.out
          rw [List.getD_eq_getElem?_getD, List.getElem?_eq_getElem hlt]
          exact List.getElem_mem hlt
        obtain ⟨z, hzz⟩ : ∃ z, z = ys.getD i ⟨#[]⟩ := ⟨_, rfl⟩
        rw [← hzz] at hc1 hz
        have HZ := hide hzz
        have HZS := hide hz
        have hlt' : (i : Int) < (ys.length : Int) := by omega
        clear hzz hc hb hz
        go_wp2_with fail
        have hq : Hid (plc p i = wrap64 (p + (i : Int))) := rfl
        generalize wrap64 (p + (i : Int)) = q at hq ⊢
        refine (frameBytes_calls k q l z _ HZS.out).mono ?_
        rintro e w2 ⟨rfl, b2⟩
        have hR : Hid (frR k q l z = sec k p l ys i) := by
          show _ = _
          unfold sec
          rw [hq.out, HZ.out]
        generalize frR k q l z = R at hR ⊢
        obtain ⟨T, ok⟩ := R
        simp only []
        have B2 := hide (HB.out.trans (b2.mono HB.out.size))
        have el : (cpT (secs k p l ys) i).length = ys.length := by rw [cpT_length _ i (by rw [secs_length]; exact hi), secs_length]
        have o2 : w2.ownsRow w1.heap.size 9 1 (.slice (some ⟨w1.heap.size, 0, none⟩) ys.length ys.length) ys.length ((cpT (secs k p l ys) i).map Value.string) := by
          have hO : OwnT wr w1.heap.size (.slice (some ⟨w1.heap.size, 0, none⟩) ys.length ys.length) (cpT (secs k p l ys) i) := by
            show World.ownsRow _ _ _ _ _ (cpT (secs k p l ys) i).length _
            rw [el]
            exact O.out
          have := hO.below b2
          unfold OwnT at this
          rwa [el] at this
        have hc2 : w2.frozen? ⟨w1.heap.size, i, none⟩ = false := o2.frozenAt i
        obtain ⟨old, hc3⟩ : ∃ old, w2.cell? ⟨w1.heap.size, i, none⟩ = some old := by
          rw [o2.cellAt i (by omega)]
          exact ⟨_, List.getElem?_eq_getElem (by rw [List.length_map, el]; exact hlt)⟩
        have hst := o2.stored i (.string T)
        have K := hide hst
        clear o2 b2 hc1 hst el
        cases ok with
        | false =>
          have er := NO.out (fun h => by have := h.2 i hlt; rw [← hR.out] at this; cases this)
          subst er
          go_wp2
          go_ret2
          exact ⟨_, rfl, ownT_nil _ _, S1.out.trans ((B2.out.setCell (Nat.le_refl _) _).mono S1.out.size)⟩
        | true =>
          have hT : Hid (T = (secs k p l ys).getD i ⟨#[]⟩) := by
            show _ = _
            rw [secs_getD k p l ys i hlt, ← hR.out]
          go_wp2
          go_roundw
          case rel =>
            refine ⟨i + 1, by omega, by go_num, rfl, ?_, fun j hj => ?_, B2.out.setCell (Nat.le_refl _) _⟩
            · have := K.out.1
              rw [← List.map_set, hT.out, cpT_step (secs k p l ys) i (by rw [secs_length]; exact hlt)] at this
              rw [hT.out]
              exact this
            · by_cases e : j = i
              · subst e; rw [← hR.out]
              · exact HA.out j (by omega)
          case measure => simp [intOf]; omega
      · obtain rfl : i = ys.length := by omega
        have er := YES.out ⟨by simp, HA.out⟩
        subst er
        clear hb
        go_wp2
        go_ret2
        refine ⟨_, rfl, ?_, S1.out.trans (HB.out.mono S1.out.size)⟩
        have := O.out
        have ee : cpT (secs k p l ys) ys.length = secs k p l ys := by
          have := cpT_end (secs k p l ys)
          rwa [secs_length] at this
        rw [ee] at this
        show World.ownsRow _ _ _ _ _ (secs k p l ys).length _
        rw [secs_length]
        exact ownsRow_less this S1.out.size
end Go.Proofs.Ytpgmocogffolaaa

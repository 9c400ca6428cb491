/-
  A step of a disk: the program's StepDisk, call by call. The contract says what it asks.
-/
import Derived.Test.YtnjpkfgljabdaaaDst
namespace Go.Proofs.Ytnjpkfgljabdaaa
open Go.RowKit
set_option linter.unusedVariables false

theorem Hand.three (w : World) (c1 c2 c3 : Array Value) (T1 T2 T3 : TypeId) : Hand w (((w.alloc (.cells c1 T1)).alloc (.cells c2 T2)).alloc (.cells c3 T3)) [TBox (w.heap.size + 1 + 1) c3 T3, TBox (w.heap.size + 1) c2 T2, TBox w.heap.size c1 T1] := by
  have h := (((Hand.start w).box c1 T1).box c2 T2).box c3 T3
  simpa only [World.size_alloc] using h
/-- What StepDisk answers. -/
def sdP (ok : Bool) (P H : List ByteArray) (K A : Int) (T : ByteArray) (ks : List Int) : List ByteArray := if ok = true then stP P H P.length K A T ks else []
def sdH (ok : Bool) (H : List ByteArray) (K A : Int) (T : ByteArray) : List ByteArray := if ok = true then stH H K A T else []
def sdB (ok : Bool) (B : List Bool) (K A : Int) : List Bool := if ok = true then stB B K A else []
theorem stP_len (P H : List ByteArray) (n : Nat) (K A : Int) (T : ByteArray) (ks : List Int) : (stP P H n K A T ks).length = P.length := by
  unfold stP
  split
  · exact crP_len _ _ _
  split
  · exact crP_len _ _ _
  split
  · exact List.length_set
  split
  · exact List.length_set
  · rfl
theorem stH_len (H : List ByteArray) (K A : Int) (T : ByteArray) : (stH H K A T).length = H.length := by
  unfold stH
  split
  · exact List.length_set
  split
  · simp [crH]
  split
  · simp [crH]
  split
  · exact List.length_set
  · rfl
theorem stB_len (B : List Bool) (K A : Int) : (stB B K A).length = B.length := by
  unfold stB
  split
  · exact List.length_set
  split
  · exact List.length_set
  · rfl
theorem sd_bool (P H : List ByteArray) (B : List Bool) (K A : Int) (T : ByteArray) (ks : List Int) : ∃ ok : Bool, ok = true ↔ (gkP P H B ∧ stOk P H B P.length K A T ks) := by
  by_cases hh : gkP P H B ∧ stOk P H B P.length K A T ks
  · exact ⟨true, fun _ => hh, fun _ => rfl⟩
  · exact ⟨false, fun h => by simp at h, fun h => absurd h hh⟩
theorem sd_len {P H : List ByteArray} {B : List Bool} {K A : Int} {T : ByteArray} {ks : List Int} {ok : Bool} (h : ok = true ↔ (gkP P H B ∧ stOk P H B P.length K A T ks)) : SzD (sdP ok P H K A T ks) (sdH ok H K A T) (sdB ok B K A) := by
  cases ok with
  | false => simp [SzD, sdP, sdH, sdB]
  | true =>
    obtain ⟨⟨h1, h2⟩, h3, h4, _⟩ := (h.1 rfl).1
    simp only [SzD, sdP, sdH, sdB, if_true, stP_len, stH_len, stB_len]
    omega

set_option maxRecDepth 100000 in
set_option maxHeartbeats 1600000 in
theorem stepDisk_calls (p h b vk : Value) (P H : List ByteArray) (B : List Bool) (K A : Int) (T : ByteArray) (ks : List Int) (ok : Bool) (w : World) (hok : ok = true ↔ (gkP P H B ∧ stOk P H B P.length K A T ks)) (hp : RdT w p P) (hh : RdT w h H) (hb : RdZ w b B) (hv : Rd w vk ks) (hT : T.size ≤ 1048576) (hkl : ks.length ≤ 1048576) :
    Calls Try.prog 24 #[.agg #[p, h, b], .agg #[.int .i64 K, .int .i64 A, .string T, vk]] w fun e w' => ∃ p' h' b', e = .returned (.tuple #[.agg #[p', h', b'], .bool ok]) ∧ DskV w' w.heap.size w'.heap.size p' h' b' (sdP ok P H K A T ks) (sdH ok H K A T) (sdB ok B K A) ∧ Below w.heap.size w w' := by
  have RP := hide hp
  have RH := hide hh
  have RB := hide hb
  have RV := hide hv
  have HOK := hide hok
  obtain ⟨g, hg⟩ := gk_bool' P H B
  have HG := hide hg
  have C := hide (fun W (h1 : RdT W p P) (h2 : RdT W h H) (h3 : RdZ W b B) => goodDisk_calls p h b P H B g W hg h1 h2 h3)
  obtain ⟨av, cv, rfl, _, _⟩ := hv.sl
  have A0 := hide (Hand.three w #[p, h, b] #[.int .i64 K, .int .i64 A, .string T, .slice av ks.length cv] nil3 25 44 25)
  clear hp hh hb hv hok hg
  cases g with
  | false =>
    obtain rfl : ok = false := by
      cases ok with
      | false => rfl
      | true => exact absurd (HG.out.2 (HOK.out.1 rfl).1) (by simp)
    go_enter Try.func24, Try.ntmps24
    go_wp2_with fail
    refine (C.out _ (RP.out.below A0.out.below) (RH.out.below A0.out.below) (RB.out.below A0.out.below)).mono ?_
    rintro e w1 ⟨rfl, q⟩
    have A1 := hide (A0.out.step q)
    clear q A0
    have xr := A1.out.atBox 0 rfl
    obtain ⟨d0, d1, d2⟩ := xr.c3
    have g0 := xr.frozen 0
    have g1 := xr.frozen 1
    have g2 := xr.frozen 2
    have A2 := hide (A1.out.store3 0 rfl (.slice none 0 0) (.slice none 0 0) (.slice none 0 0))
    clear xr
    go_wp2
    exact bodyPost_ret (res_dsk2 rfl _ _ (w.heap.size + 1 + 1) _ _ _ (0, 0) rfl (A2.out.atBox 0 rfl)) rfl ⟨_, _, _, rfl, DskV.nil _ _ _, A2.out.below⟩
  | true =>
  obtain ⟨z, hz⟩ := lz_bool K A T ks
  have HZ := hide hz
  have CZ := hide (fun W (h1 : Rd W (.slice av ks.length cv) ks) => leaves_calls K A T _ ks z W h1 hz)
  clear hz
  cases z with
  | false =>
    obtain rfl : ok = false := by
      cases ok with
      | false => rfl
      | true => exact absurd (HZ.out.2 (stOk_lz (HOK.out.1 rfl).2)) (by simp)
    go_enter Try.func24, Try.ntmps24
    go_wp2_with fail
    refine (C.out _ (RP.out.below A0.out.below) (RH.out.below A0.out.below) (RB.out.below A0.out.below)).mono ?_
    rintro e w1 ⟨rfl, q⟩
    have A1 := hide (A0.out.step q)
    clear q A0
    obtain ⟨y0, y1, y2, y3⟩ := (A1.out.atBox 1 rfl).c4
    go_wp2_with fail
    refine (CZ.out _ (RV.out.below A1.out.below)).mono ?_
    rintro e w2 ⟨rfl, q⟩
    have A2 := hide (A1.out.step q)
    clear q A1 y0 y1 y2 y3
    have xr := A2.out.atBox 0 rfl
    obtain ⟨d0, d1, d2⟩ := xr.c3
    have g0 := xr.frozen 0
    have g1 := xr.frozen 1
    have g2 := xr.frozen 2
    have A3 := hide (A2.out.store3 0 rfl (.slice none 0 0) (.slice none 0 0) (.slice none 0 0))
    clear xr
    go_wp2
    exact bodyPost_ret (res_dsk2 rfl _ _ (w.heap.size + 1 + 1) _ _ _ (0, 0) rfl (A3.out.atBox 0 rfl)) rfl ⟨_, _, _, rfl, DskV.nil _ _ _, A3.out.below⟩
  | true =>
  have hgk := HG.out.1 rfl
  obtain ⟨⟨hn1, hn2⟩, hl2, hl3, h28, hh28, _⟩ := hgk
  obtain ⟨n, hn⟩ : ∃ n, n = P.length := ⟨_, rfl⟩
  have LP : Hid (P.length = n) := hn.symm
  have LH : Hid (H.length = n) := hl2.trans hn.symm
  have LB : Hid (B.length = n) := hl3.trans hn.symm
  have H28 := hide h28
  have HH28 : Hid (∀ i, i < H.length → (H.getD i ⟨#[]⟩).size ≤ 28) := fun i hi => hh28 i (by rw [← hl2]; exact hi)
  have nn : 0 < n ∧ n ≤ 24 := ⟨by omega, by omega⟩
  have HK : Hid (ok = true ↔ stOk P H B n K A T ks) := by
    show _ ↔ _
    rw [hn]
    exact ⟨fun h => (HOK.out.1 h).2, fun h => HOK.out.2 ⟨HG.out.1 rfl, h⟩⟩
  have LZ : Hid (lzOk K A T ks) := HZ.out.1 rfl
  have EP : Hid (stP P H P.length K A T ks = stP P H n K A T ks) := by show _ = _; rw [hn]
  clear hn1 hn2 hl2 hl3 h28 hh28 hn HOK HG HZ
  go_enter Try.func24, Try.ntmps24
  go_wp2_with fail
  refine (C.out _ (RP.out.below A0.out.below) (RH.out.below A0.out.below) (RB.out.below A0.out.below)).mono ?_
  rintro e w1 ⟨rfl, q⟩
  have A1 := hide (A0.out.step q)
  clear q A0 C
  obtain ⟨y0, y1, y2, y3⟩ := (A1.out.atBox 1 rfl).c4
  go_wp2_with fail
  refine (CZ.out _ (RV.out.below A1.out.below)).mono ?_
  rintro e w2 ⟨rfl, q⟩
  have A2 := hide (A1.out.step q)
  clear q A1 y0 y1 y2 y3 CZ
  obtain ⟨c0, c1, c2⟩ := (A2.out.atBox 2 rfl).c3
  go_wp2_with fail
  refine (copyDisk_calls p h b P H B _ (RP.out.below A2.out.below) (RH.out.below A2.out.below) (RB.out.below A2.out.below) (by rw [LP.out]; exact nn) (by rw [LH.out]; exact nn) (by rw [LB.out]; exact nn) H28.out HH28.out).mono ?_
  rintro e w3 ⟨p2, h2, b2, rfl, d, q⟩
  obtain ⟨ap2, cp2, ah2, ch2, ab2, cb2, rfl, rfl, rfl⟩ := d.sl
  have lt2 := q.size
  have A3 := hide ((A2.out.add q (TDsk.st _ _ _ _ _ _) d).box #[.slice ap2 P.length cp2, .slice ah2 H.length ch2, .slice ab2 B.length cb2] 25)
  have hlt := (A2.out.atBox 0 rfl).lt
  clear q d A2 c0 c1 c2
  obtain ⟨lo, hi, d2, lw, hw, put⟩ := A3.out.open 1 rfl
  have D2 : Hid (DskV _ lo hi _ _ _ P H B) := d2
  have PUT := hide put
  clear d2 put
  obtain ⟨y0, y1, y2, y3⟩ := (A3.out.atBox 3 rfl).c4
  go_wp2_with fail
  refine (doStep_calls _ _ _ _ P H B K A T ks lo hi n ok _ D2.out hw LP.out LH.out LB.out nn (fun w' hc => RV.out.below (A3.out.below.trans (hc.below lw A3.out.below.size))) LZ.out HK.out hT hkl H28.out).mono ?_
  rintro e w4 ⟨rfl, d3, c3⟩
  cases ok with
  | false =>
    have A4 := hide (PUT.out w4 (fun _ _ _ => True) (fun _ _ _ _ _ _ _ _ _ => trivial) trivial c3)
    clear d3 c3 A3 D2 PUT lw hw y0 y1 y2 y3
    have xr := A4.out.atBox 2 rfl
    obtain ⟨d0, d1, d2⟩ := xr.c3
    have g0 := xr.frozen 0
    have g1 := xr.frozen 1
    have g2 := xr.frozen 2
    have A5 := hide (A4.out.store3 2 rfl (.slice none 0 0) (.slice none 0 0) (.slice none 0 0))
    clear xr
    go_wp2
    exact bodyPost_ret (res_dsk2 rfl _ _ (w.heap.size + 1 + 1) _ _ _ (0, 0) rfl (A5.out.atBox 2 rfl)) rfl ⟨_, _, _, rfl, DskV.nil _ _ _, A5.out.below⟩
  | true =>
    have A4 := hide (PUT.out w4 (TDsk _ _ _ _ _ _) (TDsk.st _ _ _ _ _ _) (d3 rfl) c3)
    clear d3 c3 A3 D2 PUT lw hw y0 y1 y2 y3
    have xr := A4.out.atBox 2 rfl
    obtain ⟨d0, d1, d2⟩ := xr.c3
    have g0 := xr.frozen 0
    have g1 := xr.frozen 1
    have g2 := xr.frozen 2
    obtain ⟨c0, c1, c2⟩ := (A4.out.atBox 0 rfl).c3
    have A5 := hide (A4.out.store3 2 rfl (.slice ap2 P.length cp2) (.slice ah2 H.length ch2) (.slice ab2 B.length cb2))
    clear xr
    go_wp2
    refine bodyPost_ret (res_dsk2 rfl _ _ (w.heap.size + 1 + 1) _ _ _ (0, 0) rfl (A5.out.atBox 2 rfl)) rfl ⟨_, _, _, rfl, ?_, A5.out.below⟩
    show DskV _ _ _ _ _ _ (if true = true then stP P H P.length K A T ks else []) _ _
    rw [if_pos rfl, EP.out]
    exact A5.out.wide 1 rfl
end Go.Proofs.Ytnjpkfgljabdaaa

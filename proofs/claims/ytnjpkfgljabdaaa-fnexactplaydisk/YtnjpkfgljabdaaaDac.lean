/-
  Behind a crash: the program's AfterCrash and its model's, call by call. Each contract says what it asks.
-/
import Derived.Test.YtnjpkfgljabdaaaDct
namespace Go.Proofs.Ytnjpkfgljabdaaa
open Go.RowKit
set_option linter.unusedVariables false

theorem Hand.store3 {W w : World} {L : List Tg} {g : Nat} {a b c : Value} {T : TypeId} (A : Hand W w L) (i : Nat) (hi : L[i]? = some (TBox g #[a, b, c] T)) (v0 v1 v2 : Value) :
    Hand W (((w.setCell ⟨g, 0, none⟩ v0).setCell ⟨g, 1, none⟩ v1).setCell ⟨g, 2, none⟩ v2) (L.set i (TBox g #[v0, v1, v2] T)) := by
  obtain ⟨lo, hi', ⟨b1, b2, b3⟩, _, _, put⟩ := A.open i hi
  exact put _ (TBox g #[v0, v1, v2] T) (TBox.st _ _ _) ⟨b1, b2, b3.store3 v0 v1 v2⟩ (Chg.store3 w g v0 v1 v2 b1 b2)
theorem Hand.wide {W w : World} {L : List Tg} {p h b : Value} {P H : List ByteArray} {B : List Bool} (A : Hand W w L) (i : Nat) (hi : L[i]? = some (TDsk p h b P H B)) : DskV w W.heap.size w.heap.size p h b P H B := by
  obtain ⟨lo, hi', d, h1, h2, _⟩ := A.open i hi
  exact DskV.wider d h1 h2
theorem Hand.two (w : World) (c1 c2 : Array Value) (T1 T2 : TypeId) : Hand w ((w.alloc (.cells c1 T1)).alloc (.cells c2 T2)) [TBox (w.heap.size + 1) c2 T2, TBox w.heap.size c1 T1] := by
  have h := ((Hand.start w).box c1 T1).box c2 T2
  simpa only [World.size_alloc] using h
/-- What AfterCrash answers. -/
def acP (ok : Bool) (P H : List ByteArray) (ks : List Int) : List ByteArray := if ok = true then crP P H ks else []
def acH (ok : Bool) (H : List ByteArray) : List ByteArray := if ok = true then crH H else []
def acB (ok : Bool) (B : List Bool) : List Bool := if ok = true then B else []
theorem ac_bool (P H : List ByteArray) (B : List Bool) (ks : List Int) : ∃ ok : Bool, ok = true ↔ (gkP P H B ∧ kpOk H ks) := by
  by_cases hh : gkP P H B ∧ kpOk H ks
  · exact ⟨true, fun _ => hh, fun _ => rfl⟩
  · exact ⟨false, fun h => by simp at h, fun h => absurd h hh⟩
theorem crP_len (P H : List ByteArray) (ks : List Int) : (crP P H ks).length = P.length := crPk_len _ _ _ _
theorem ac_len {P H : List ByteArray} {B : List Bool} {ks : List Int} {ok : Bool} (h : ok = true ↔ (gkP P H B ∧ kpOk H ks)) : SzD (acP ok P H ks) (acH ok H) (acB ok B) := by
  cases ok with
  | false => simp [SzD, acP, acH, acB]
  | true =>
    obtain ⟨⟨h1, h2⟩, h3, h4, _⟩ := (h.1 rfl).1
    simp only [SzD, acP, acH, acB, if_true, crP_len, crH, List.length_replicate]
    omega

set_option maxRecDepth 100000 in
set_option maxHeartbeats 1600000 in
theorem afterCrash_calls (p h b v : Value) (P H : List ByteArray) (B : List Bool) (ks : List Int) (ok : Bool) (w : World) (hok : ok = true ↔ (gkP P H B ∧ kpOk H ks)) (hp : RdT w p P) (hh : RdT w h H) (hb : RdZ w b B) (hv : Rd w v ks) (hkl : ks.length ≤ 1048576) :
    Calls Try.prog 43 #[.agg #[p, h, b], v] w fun e w' => ∃ p' h' b', e = .returned (.tuple #[.agg #[p', h', b'], .bool ok]) ∧ DskV w' w.heap.size w'.heap.size p' h' b' (acP ok P H ks) (acH ok H) (acB ok B) ∧ Below w.heap.size w w' := by
  have RP := hide hp
  have RH := hide hh
  have RB := hide hb
  have RV := hide hv
  have HOK := hide hok
  obtain ⟨g, hg⟩ := gk_bool' P H B
  have HG := hide hg
  have C := hide (fun W (h1 : RdT W p P) (h2 : RdT W h H) (h3 : RdZ W b B) => goodDisk_calls p h b P H B g W hg h1 h2 h3)
  have A0 := hide (Hand.two w #[p, h, b] nil3 25 25)
  clear hp hh hb hv hok hg
  cases g with
  | false =>
    obtain rfl : ok = false := by
      cases ok with
      | false => rfl
      | true => exact absurd (HG.out.2 (HOK.out.1 rfl).1) (by simp)
    go_enter Try.func43, Try.ntmps43
    go_wp2_with fail
    refine (C.out _ (RP.out.below A0.out.below) (RH.out.below A0.out.below) (RB.out.below A0.out.below)).mono ?_
    rintro e w1 ⟨rfl, q⟩
    have A1 := hide (A0.out.step q)
    clear q A0
    have xr := A1.out.atBox 0 rfl
    obtain ⟨d0, d1, d2⟩ := xr.c3
    have g0 := xr.frozen 0
    have g1 := xr.frozen 1
    have g2 := xr.frozen 2
    have A2 := hide (A1.out.store3 0 rfl (.slice none 0 0) (.slice none 0 0) (.slice none 0 0))
    clear xr
    go_wp2
    exact bodyPost_ret (res_dsk2 rfl _ _ (w.heap.size + 1) _ _ _ (0, 0) rfl (A2.out.atBox 0 rfl)) rfl ⟨_, _, _, rfl, DskV.nil _ _ _, A2.out.below⟩
  | true =>
  have hgk := HG.out.1 rfl
  obtain ⟨⟨hn1, hn2⟩, hl2, hl3, h28, hh28, _⟩ := hgk
  obtain ⟨n, hn⟩ : ∃ n, n = P.length := ⟨_, rfl⟩
  have LP : Hid (P.length = n) := hn.symm
  have LH : Hid (H.length = n) := hl2.trans hn.symm
  have LB : Hid (B.length = n) := hl3.trans hn.symm
  have H28 := hide h28
  have HH28 : Hid (∀ i, i < H.length → (H.getD i ⟨#[]⟩).size ≤ 28) := fun i hi => hh28 i (by rw [← hl2]; exact hi)
  have nn : 0 < n ∧ n ≤ 24 := ⟨by omega, by omega⟩
  have HK : Hid (ok = true ↔ kpOk H ks) := ⟨fun h => (HOK.out.1 h).2, fun h => HOK.out.2 ⟨HG.out.1 rfl, h⟩⟩
  clear hn1 hn2 hl2 hl3 h28 hh28 hn HOK HG
  go_enter Try.func43, Try.ntmps43
  go_wp2_with fail
  refine (C.out _ (RP.out.below A0.out.below) (RH.out.below A0.out.below) (RB.out.below A0.out.below)).mono ?_
  rintro e w1 ⟨rfl, q⟩
  have A1 := hide (A0.out.step q)
  clear q A0 C
  obtain ⟨c0, c1, c2⟩ := (A1.out.atBox 1 rfl).c3
  go_wp2_with fail
  refine (copyDisk_calls p h b P H B _ (RP.out.below A1.out.below) (RH.out.below A1.out.below) (RB.out.below A1.out.below) (by rw [LP.out]; exact nn) (by rw [LH.out]; exact nn) (by rw [LB.out]; exact nn) H28.out HH28.out).mono ?_
  rintro e w2 ⟨p2, h2, b2, rfl, d, q⟩
  obtain ⟨ap2, cp2, ah2, ch2, ab2, cb2, rfl, rfl, rfl⟩ := d.sl
  have lt2 := q.size
  have A2 := hide ((A1.out.add q (TDsk.st _ _ _ _ _ _) d).box #[.slice ap2 P.length cp2, .slice ah2 H.length ch2, .slice ab2 B.length cb2] 25)
  clear q d A1 c0 c1 c2
  obtain ⟨lo, hi, d2, lw, hw, put⟩ := A2.out.open 1 rfl
  have D2 : Hid (DskV _ lo hi _ _ _ P H B) := d2
  have PUT := hide put
  clear d2 put
  go_wp2_with fail
  refine (crashTo_calls _ _ _ v P H B ks lo hi n ok _ D2.out hw LP.out LH.out LB.out nn hkl (fun w' hc => RV.out.below (A2.out.below.trans (hc.below lw A2.out.below.size))) HK.out).mono ?_
  rintro e w3 ⟨rfl, d3, c3⟩
  cases ok with
  | false =>
    have A3 := hide (PUT.out w3 (fun _ _ _ => True) (fun _ _ _ _ _ _ _ _ _ => trivial) trivial c3)
    clear d3 c3 A2 D2 PUT lw hw
    have xr := A3.out.atBox 2 rfl
    obtain ⟨d0, d1, d2⟩ := xr.c3
    have g0 := xr.frozen 0
    have g1 := xr.frozen 1
    have g2 := xr.frozen 2
    have A4 := hide (A3.out.store3 2 rfl (.slice none 0 0) (.slice none 0 0) (.slice none 0 0))
    clear xr
    go_wp2
    exact bodyPost_ret (res_dsk2 rfl _ _ (w.heap.size + 1) _ _ _ (0, 0) rfl (A4.out.atBox 2 rfl)) rfl ⟨_, _, _, rfl, DskV.nil _ _ _, A4.out.below⟩
  | true =>
    have A3 := hide (PUT.out w3 (TDsk _ _ _ _ _ _) (TDsk.st _ _ _ _ _ _) (d3 rfl) c3)
    clear d3 c3 A2 D2 PUT lw hw
    have xr := A3.out.atBox 2 rfl
    obtain ⟨d0, d1, d2⟩ := xr.c3
    have g0 := xr.frozen 0
    have g1 := xr.frozen 1
    have g2 := xr.frozen 2
    obtain ⟨c0, c1, c2⟩ := (A3.out.atBox 0 rfl).c3
    have A4 := hide (A3.out.store3 2 rfl (.slice ap2 P.length cp2) (.slice ah2 H.length ch2) (.slice ab2 B.length cb2))
    clear xr
    go_wp2
    exact bodyPost_ret (res_dsk2 rfl _ _ (w.heap.size + 1) _ _ _ (0, 0) rfl (A4.out.atBox 2 rfl)) rfl ⟨_, _, _, rfl, A4.out.wide 1 rfl, A4.out.below⟩

set_option maxRecDepth 100000 in
set_option maxHeartbeats 1600000 in
theorem sAfterCrash_calls (p h b v : Value) (P H : List ByteArray) (B : List Bool) (ks : List Int) (ok : Bool) (w : World) (hok : ok = true ↔ (gkP P H B ∧ kpOk H ks)) (hp : RdT w p P) (hh : RdT w h H) (hb : RdZ w b B) (hv : Rd w v ks) (hkl : ks.length ≤ 1048576) :
    Calls Try.prog 41 #[.agg #[p, h, b], v] w fun e w' => ∃ p' h' b', e = .returned (.tuple #[.agg #[p', h', b'], .bool ok]) ∧ DskV w' w.heap.size w'.heap.size p' h' b' (acP ok P H ks) (acH ok H) (acB ok B) ∧ Below w.heap.size w w' := by
  have RP := hide hp
  have RH := hide hh
  have RB := hide hb
  have RV := hide hv
  have HOK := hide hok
  obtain ⟨g, hg⟩ := gk_bool' P H B
  have HG := hide hg
  have C := hide (fun W (h1 : RdT W p P) (h2 : RdT W h H) (h3 : RdZ W b B) => sGoodDisk_calls p h b P H B g W hg h1 h2 h3)
  have A0 := hide (Hand.two w #[p, h, b] nil3 25 25)
  clear hp hh hb hv hok hg
  cases g with
  | false =>
    obtain rfl : ok = false := by
      cases ok with
      | false => rfl
      | true => exact absurd (HG.out.2 (HOK.out.1 rfl).1) (by simp)
    go_enter Try.func41, Try.ntmps41
    go_wp2_with fail
    refine (C.out _ (RP.out.below A0.out.below) (RH.out.below A0.out.below) (RB.out.below A0.out.below)).mono ?_
    rintro e w1 ⟨rfl, q⟩
    have A1 := hide (A0.out.step q)
    clear q A0
    have xr := A1.out.atBox 0 rfl
    obtain ⟨d0, d1, d2⟩ := xr.c3
    have g0 := xr.frozen 0
    have g1 := xr.frozen 1
    have g2 := xr.frozen 2
    have A2 := hide (A1.out.store3 0 rfl (.slice none 0 0) (.slice none 0 0) (.slice none 0 0))
    clear xr
    go_wp2
    exact bodyPost_ret (res_dsk2 rfl _ _ (w.heap.size + 1) _ _ _ (0, 0) rfl (A2.out.atBox 0 rfl)) rfl ⟨_, _, _, rfl, DskV.nil _ _ _, A2.out.below⟩
  | true =>
  have hgk := HG.out.1 rfl
  obtain ⟨⟨hn1, hn2⟩, hl2, hl3, h28, hh28, _⟩ := hgk
  obtain ⟨n, hn⟩ : ∃ n, n = P.length := ⟨_, rfl⟩
  have LP : Hid (P.length = n) := hn.symm
  have LH : Hid (H.length = n) := hl2.trans hn.symm
  have LB : Hid (B.length = n) := hl3.trans hn.symm
  have nn : 0 < n ∧ n ≤ 24 := ⟨by omega, by omega⟩
  have HK : Hid (ok = true ↔ kpOk H ks) := ⟨fun h => (HOK.out.1 h).2, fun h => HOK.out.2 ⟨HG.out.1 rfl, h⟩⟩
  clear hn1 hn2 hl2 hl3 h28 hh28 hn HOK HG
  go_enter Try.func41, Try.ntmps41
  go_wp2_with fail
  refine (C.out _ (RP.out.below A0.out.below) (RH.out.below A0.out.below) (RB.out.below A0.out.below)).mono ?_
  rintro e w1 ⟨rfl, q⟩
  have A1 := hide (A0.out.step q)
  clear q A0 C
  obtain ⟨c0, c1, c2⟩ := (A1.out.atBox 1 rfl).c3
  go_wp2_with fail
  refine (l7Kept_calls p h b v H ks ok _ (RH.out.below A1.out.below) (RV.out.below A1.out.below) (by rw [LH.out]; exact nn.2) HK.out).mono ?_
  rintro e w2 ⟨rfl, q⟩
  have A2 := hide (A1.out.step q)
  clear q A1 c0 c1 c2
  cases ok with
  | false =>
    have xr := A2.out.atBox 0 rfl
    obtain ⟨d0, d1, d2⟩ := xr.c3
    have g0 := xr.frozen 0
    have g1 := xr.frozen 1
    have g2 := xr.frozen 2
    have A4 := hide (A2.out.store3 0 rfl (.slice none 0 0) (.slice none 0 0) (.slice none 0 0))
    clear xr
    go_wp2
    exact bodyPost_ret (res_dsk2 rfl _ _ (w.heap.size + 1) _ _ _ (0, 0) rfl (A4.out.atBox 0 rfl)) rfl ⟨_, _, _, rfl, DskV.nil _ _ _, A4.out.below⟩
  | true =>
  obtain ⟨c0, c1, c2⟩ := (A2.out.atBox 1 rfl).c3
  go_wp2_with fail
  refine (l7Own_calls p h b P H B _ (RP.out.below A2.out.below) (RH.out.below A2.out.below) (RB.out.below A2.out.below) (by rw [LP.out]; exact nn) (by rw [LH.out]; exact nn) (by rw [LB.out]; exact nn)).mono ?_
  rintro e w3 ⟨p2, h2, b2, rfl, d, q⟩
  obtain ⟨ap2, cp2, ah2, ch2, ab2, cb2, rfl, rfl, rfl⟩ := d.sl
  have A3 := hide (A2.out.add q (TDsk.st _ _ _ _ _ _) d)
  clear q d A2 c0 c1 c2
  obtain ⟨lo, hi, d2, lw, hw, put⟩ := A3.out.open 0 rfl
  have D2 : Hid (DskV _ lo hi _ _ _ P H B) := d2
  have PUT := hide put
  clear d2 put
  go_wp2_with fail
  refine (l7Crash_calls _ _ _ v P H B ks lo hi n _ D2.out hw LP.out LH.out LB.out nn (fun w' hc => RV.out.below (A3.out.below.trans (hc.below lw A3.out.below.size)))).mono ?_
  rintro e w4 ⟨rfl, d4, c4⟩
  have A4 := hide (PUT.out w4 (TDsk _ _ _ _ _ _) (TDsk.st _ _ _ _ _ _) d4 c4)
  clear d4 c4 A3 D2 PUT lw hw
  have xr := A4.out.atBox 1 rfl
  obtain ⟨d0, d1, d2⟩ := xr.c3
  have g0 := xr.frozen 0
  have g1 := xr.frozen 1
  have g2 := xr.frozen 2
  have A5 := hide (A4.out.store3 1 rfl (.slice ap2 P.length cp2) (.slice ah2 H.length ch2) (.slice ab2 B.length cb2))
  clear xr
  go_wp2
  exact bodyPost_ret (res_dsk2 rfl _ _ (w.heap.size + 1) _ _ _ (0, 0) rfl (A5.out.atBox 1 rfl)) rfl ⟨_, _, _, rfl, A5.out.wide 0 rfl, A5.out.below⟩
end Go.Proofs.Ytnjpkfgljabdaaa

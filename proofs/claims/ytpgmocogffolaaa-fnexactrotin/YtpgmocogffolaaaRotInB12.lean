/-
  A crash, on a disk of the call's own: the program's, call by call. The contract says what it asks. Behind a crash: the program's AfterCrash and its model's, call by call. Each contract says what it asks. Bytes that rot: the model's function on a text, call by call. The contract says what it asks. A sector held, a sector healed: the program's functions on a disk of the call's own, call by call. Each contract says what it asks.
-/
import Derived.Test.YtpgmocogffolaaaRotInB11
import Derived.Lib.SliceRun
namespace Go.Proofs.Ytpgmocogffolaaa
open Go.RowKit
set_option linter.unusedVariables false

theorem dsk_clear {lo hi gh ch n : Nat} {p b : Value} {P H : List ByteArray} {B : List Bool} (hH : H.length = n) : ∀ (m k : Nat) (w : World), k + m = n → DskV w lo hi p (.slice (some ⟨gh, 0, none⟩) n ch) b P (crHk H k) B →
    DskV (w.setCells gh k (List.replicate m (.string ⟨#[]⟩))) lo hi p (.slice (some ⟨gh, 0, none⟩) n ch) b P (crH H) B ∧ Chg lo hi w (w.setCells gh k (List.replicate m (.string ⟨#[]⟩)))
  | 0, k, w, hk, d => by
    obtain rfl : k = H.length := by omega
    rw [crHk_end] at d
    exact ⟨d, Chg.refl _ _ _⟩
  | m + 1, k, w, hk, d => by
    obtain ⟨d1, c1⟩ := d.putH (by rw [crHk_len]; exact hH) k ⟨#[]⟩ (Nat.zero_le _)
    rw [crHk_step H k (by omega)] at d1
    obtain ⟨d2, c2⟩ := dsk_clear hH m (k + 1) _ (by omega) d1
    exact ⟨d2, c1.trans c2⟩
theorem zero_str (w : World) : (zeroValue 9).run Try.prog w = .ok (.string ⟨#[]⟩) w := by
  obtain ⟨i0, hi, hz0, hz1, hz2⟩ := info_parts infoStr
  simp [zeroValue, typeInfo, hi, hz0]

set_option maxRecDepth 100000 in
set_option maxHeartbeats 1600000 in
theorem crashTo_calls (p h b v : Value) (P H : List ByteArray) (B : List Bool) (ks : List Int) (lo hi n : Nat) (g : Bool) (w : World) (d : DskV w lo hi p h b P H B) (hhi : hi ≤ w.heap.size) (hP : P.length = n) (hH : H.length = n) (hB : B.length = n) (hn : 0 < n ∧ n ≤ 24)
    (hkl : ks.length ≤ 1048576) (kv : ∀ w', Chg lo hi w w' → Rd w' v ks) (hg : g = true ↔ kpOk H ks) :
    Calls Try.prog 122 #[.agg #[p, h, b], v] w fun e w' => e = .returned (.bool g) ∧ (g = true → DskV w' lo hi p h b (crP P H ks) (crH H) B) ∧ Chg lo hi w w' := by
  obtain ⟨gp, cp, gh, ch, gb, cb, rfl, rfl, rfl, n1, n2, n3, ⟨t1, t2, t3⟩, _⟩ := d.blocks hP hH hB hn.1
  have KV := hide kv
  have HG := hide hg
  have D := hide d
  have LP := hide hP
  have LH := hide hH
  have LB := hide hB
  have A0 : Hid (Chg lo hi w (w.alloc (.cells #[.slice (some ⟨gp, 0, none⟩) n cp, .slice (some ⟨gh, 0, none⟩) n ch, .slice (some ⟨gb, 0, none⟩) n cb] 30))) := Chg.ofAlloc w _
  have X0 := hide (BoxAt.new w #[.slice (some ⟨gp, 0, none⟩) n cp, .slice (some ⟨gh, 0, none⟩) n ch, .slice (some ⟨gb, 0, none⟩) n cb] 30)
  have D0 := hide (d.below (below_box w (.cells #[.slice (some ⟨gp, 0, none⟩) n cp, .slice (some ⟨gh, 0, none⟩) n ch, .slice (some ⟨gb, 0, none⟩) n cb] 30)))
  have s0 : (w.alloc (.cells #[.slice (some ⟨gp, 0, none⟩) n cp, .slice (some ⟨gh, 0, none⟩) n ch, .slice (some ⟨gb, 0, none⟩) n cb] 30)).heap.size = w.heap.size + 1 := by simp
  clear kv hg d hP hH hB
  cases hr : rises ks (n : Int) with
  | false =>
    have HR := hide hr
    clear hr
    have e0 : Hid (g = false) := by
      show g = false
      cases g with
      | false => rfl
      | true =>
        have h1 := (rises_iff ks (n : Int)).2 (by rw [← LH.out]; exact (HG.out.1 rfl).1)
        rw [HR.out] at h1
        simp at h1
    go_enter Try.func122, Try.ntmps122
    go_wp2_with fail
    refine (areRising_calls _ ks (n : Int) _ (KV.out _ A0.out) (by omega) (by omega)).mono ?_
    rintro e w1 ⟨rfl, rfl⟩
    rw [HR.out]
    go_wp2
    go_ret
    exact ⟨ret_bool e0.out.symm, fun h => by rw [e0.out] at h; simp at h, A0.out⟩
  | true =>
  have HR := hide ((rises_iff ks (n : Int)).1 hr)
  have HRR := hide hr
  clear hr
  obtain ⟨y, hy⟩ : ∃ y : Bool, y = true ↔ ∀ i, i < ks.length → 0 < (H.getD (ks.getD i 0).toNat ⟨#[]⟩).size := by
    by_cases hh : ∀ i, i < ks.length → 0 < (H.getD (ks.getD i 0).toNat ⟨#[]⟩).size
    · exact ⟨true, fun _ => hh, fun _ => rfl⟩
    · exact ⟨false, fun h => by simp at h, fun h => absurd h hh⟩
  have CA := hide (allHeld_calls v ks w.heap.size _ H y _ (KV.out _ A0.out) X0.out.c3.2.1 D0.out.rh (fun i hi => by have := HR.out i hi; rw [LH.out]; exact ⟨this.1, this.2.1⟩) hy)
  have HYG : Hid (g = y) := by
    show g = y
    have hyk : kpOk H ks ↔ y = true := ⟨fun h => hy.2 h.2, fun h => ⟨by rw [LH.out]; exact HR.out, hy.1 h⟩⟩
    cases g with
    | true => exact (hyk.1 (HG.out.1 rfl)).symm
    | false =>
      cases y with
      | false => rfl
      | true => exact absurd (HG.out.2 (hyk.2 rfl)) (by simp)
  clear hy
  cases y with
  | false =>
    go_enter Try.func122, Try.ntmps122
    go_wp2_with fail
    refine (areRising_calls _ ks (n : Int) _ (KV.out _ A0.out) (by omega) (by omega)).mono ?_
    rintro e w1 ⟨rfl, rfl⟩
    rw [HRR.out]
    go_wp2_with fail
    refine CA.out.mono ?_
    rintro e w1 ⟨rfl, rfl⟩
    go_wp2
    go_ret
    exact ⟨ret_bool HYG.out.symm, fun h => by rw [HYG.out] at h; simp at h, A0.out⟩
  | true =>
  go_enter Try.func122, Try.ntmps122
  go_wp2_with fail
  refine (areRising_calls _ ks (n : Int) _ (KV.out _ A0.out) (by omega) (by omega)).mono ?_
  rintro e w1 ⟨rfl, rfl⟩
  rw [HRR.out]
  go_wp2_with fail
  refine CA.out.mono ?_
  rintro e w1 ⟨rfl, rfl⟩
  clear CA
  go_wp2_with fail
  refine (putOnPlate_calls _ _ _ v P H B ks lo hi n _ D0.out (by omega) LP.out LH.out LB.out hn (fun i hi => by have := HR.out i hi; exact ⟨this.1, this.2.1⟩) hkl (fun w' hc => KV.out _ (A0.out.trans hc))).mono ?_
  rintro e w2 ⟨rfl, d2, c2⟩
  have X2 := hide (X0.out.chg c2 (.inr hhi))
  obtain ⟨x0, x1, x2⟩ := X2.out.c3
  have d3 : DskV w2 lo hi (.slice (some ⟨gp, 0, none⟩) n cp) (.slice (some ⟨gh, 0, none⟩) n ch) (.slice (some ⟨gb, 0, none⟩) n cb) (crP P H ks) (crHk H 0) B := by rw [crHk_zero]; exact d2
  obtain ⟨d4, c4⟩ := dsk_clear LH.out n 0 w2 (by omega) d3
  have hcl := fun ty => Lib.run_clear_slice (P := Try.prog) w2 22 9 ty (.string ⟨#[]⟩) Try.underlying22 zero_str rfl rfl gh 0 n ch hn.1 (fun j hj => by rw [Nat.zero_add, (d2.cellH LH.out j hj).1]; rfl) (fun j hj => by rw [Nat.zero_add]; exact (d2.cellH LH.out j hj).2)
  have D4 := hide d4
  have C4 := hide ((A0.out.trans c2).trans c4)
  clear d2 c2 d3 d4 c4 x0 x2
  go_wp2
  go_ret
  exact ⟨ret_bool HYG.out.symm, fun _ => D4.out, C4.out⟩
end Go.Proofs.Ytpgmocogffolaaa

namespace Go.Proofs.Ytpgmocogffolaaa
open Go.RowKit
set_option linter.unusedVariables false

theorem Hand.store3 {W w : World} {L : List Tg} {g : Nat} {a b c : Value} {T : TypeId} (A : Hand W w L) (i : Nat) (hi : L[i]? = some (TBox g #[a, b, c] T)) (v0 v1 v2 : Value) :
    Hand W (((w.setCell ⟨g, 0, none⟩ v0).setCell ⟨g, 1, none⟩ v1).setCell ⟨g, 2, none⟩ v2) (L.set i (TBox g #[v0, v1, v2] T)) := by
  obtain ⟨lo, hi', ⟨b1, b2, b3⟩, _, _, put⟩ := A.open i hi
  exact put _ (TBox g #[v0, v1, v2] T) (TBox.st _ _ _) ⟨b1, b2, b3.store3 v0 v1 v2⟩ (Chg.store3 w g v0 v1 v2 b1 b2)
theorem Hand.wide {W w : World} {L : List Tg} {p h b : Value} {P H : List ByteArray} {B : List Bool} (A : Hand W w L) (i : Nat) (hi : L[i]? = some (TDsk p h b P H B)) : DskV w W.heap.size w.heap.size p h b P H B := by
  obtain ⟨lo, hi', d, h1, h2, _⟩ := A.open i hi
  exact DskV.wider d h1 h2
theorem Hand.two (w : World) (c1 c2 : Array Value) (T1 T2 : TypeId) : Hand w ((w.alloc (.cells c1 T1)).alloc (.cells c2 T2)) [TBox (w.heap.size + 1) c2 T2, TBox w.heap.size c1 T1] := by
  have h := ((Hand.start w).box c1 T1).box c2 T2
  simpa only [World.size_alloc] using h
/-- What AfterCrash answers. -/
def acP (ok : Bool) (P H : List ByteArray) (ks : List Int) : List ByteArray := if ok = true then crP P H ks else []
def acH (ok : Bool) (H : List ByteArray) : List ByteArray := if ok = true then crH H else []
def acB (ok : Bool) (B : List Bool) : List Bool := if ok = true then B else []
theorem ac_bool (P H : List ByteArray) (B : List Bool) (ks : List Int) : ∃ ok : Bool, ok = true ↔ (gkP P H B ∧ kpOk H ks) := by
  by_cases hh : gkP P H B ∧ kpOk H ks
  · exact ⟨true, fun _ => hh, fun _ => rfl⟩
  · exact ⟨false, fun h => by simp at h, fun h => absurd h hh⟩
theorem crP_len (P H : List ByteArray) (ks : List Int) : (crP P H ks).length = P.length := crPk_len _ _ _ _
theorem ac_len {P H : List ByteArray} {B : List Bool} {ks : List Int} {ok : Bool} (h : ok = true ↔ (gkP P H B ∧ kpOk H ks)) : SzD (acP ok P H ks) (acH ok H) (acB ok B) := by
  cases ok with
  | false => simp [SzD, acP, acH, acB]
  | true =>
    obtain ⟨⟨h1, h2⟩, h3, h4, _⟩ := (h.1 rfl).1
    simp only [SzD, acP, acH, acB, if_true, crP_len, crH, List.length_replicate]
    omega

set_option maxRecDepth 100000 in
set_option maxHeartbeats 1600000 in
theorem afterCrash_calls (p h b v : Value) (P H : List ByteArray) (B : List Bool) (ks : List Int) (ok : Bool) (w : World) (hok : ok = true ↔ (gkP P H B ∧ kpOk H ks)) (hp : RdT w p P) (hh : RdT w h H) (hb : RdZ w b B) (hv : Rd w v ks) (hkl : ks.length ≤ 1048576) :
    Calls Try.prog 81 #[.agg #[p, h, b], v] w fun e w' => ∃ p' h' b', e = .returned (.tuple #[.agg #[p', h', b'], .bool ok]) ∧ DskV w' w.heap.size w'.heap.size p' h' b' (acP ok P H ks) (acH ok H) (acB ok B) ∧ Below w.heap.size w w' := by
  have RP := hide hp
  have RH := hide hh
  have RB := hide hb
  have RV := hide hv
  have HOK := hide hok
  obtain ⟨g, hg⟩ := gk_bool' P H B
  have HG := hide hg
  have C := hide (fun W (h1 : RdT W p P) (h2 : RdT W h H) (h3 : RdZ W b B) => goodDisk_calls p h b P H B g W hg h1 h2 h3)
  have A0 := hide (Hand.two w #[p, h, b] nil3 30 30)
  clear hp hh hb hv hok hg
  cases g with
  | false =>
    obtain rfl : ok = false := by
      cases ok with
      | false => rfl
      | true => exact absurd (HG.out.2 (HOK.out.1 rfl).1) (by simp)
    go_enter Try.func81, Try.ntmps81
    go_wp2_with fail
    refine (C.out _ (RP.out.below A0.out.below) (RH.out.below A0.out.below) (RB.out.below A0.out.below)).mono ?_
    rintro e w1 ⟨rfl, q⟩
    have A1 := hide (A0.out.step q)
    clear q A0
    have xr := A1.out.atBox 0 rfl
    obtain ⟨d0, d1, d2⟩ := xr.c3
    have g0 := xr.frozen 0
    have g1 := xr.frozen 1
    have g2 := xr.frozen 2
    have A2 := hide (A1.out.store3 0 rfl (.slice none 0 0) (.slice none 0 0) (.slice none 0 0))
    clear xr
    go_wp2
    exact bodyPost_ret (res_dsk2 rfl _ _ (w.heap.size + 1) _ _ _ (0, 0) rfl (A2.out.atBox 0 rfl)) rfl ⟨_, _, _, rfl, DskV.nil _ _ _, A2.out.below⟩
  | true =>
  have hgk := HG.out.1 rfl
  obtain ⟨⟨hn1, hn2⟩, hl2, hl3, h28, hh28, _⟩ := hgk
  obtain ⟨n, hn⟩ : ∃ n, n = P.length := ⟨_, rfl⟩
  have LP : Hid (P.length = n) := hn.symm
  have LH : Hid (H.length = n) := hl2.trans hn.symm
  have LB : Hid (B.length = n) := hl3.trans hn.symm
  have H28 := hide h28
  have HH28 : Hid (∀ i, i < H.length → (H.getD i ⟨#[]⟩).size ≤ 28) := fun i hi => hh28 i (by rw [← hl2]; exact hi)
  have nn : 0 < n ∧ n ≤ 24 := ⟨by omega, by omega⟩
  have HK : Hid (ok = true ↔ kpOk H ks) := ⟨fun h => (HOK.out.1 h).2, fun h => HOK.out.2 ⟨HG.out.1 rfl, h⟩⟩
  clear hn1 hn2 hl2 hl3 h28 hh28 hn HOK HG
  go_enter Try.func81, Try.ntmps81
  go_wp2_with fail
  refine (C.out _ (RP.out.below A0.out.below) (RH.out.below A0.out.below) (RB.out.below A0.out.below)).mono ?_
  rintro e w1 ⟨rfl, q⟩
  have A1 := hide (A0.out.step q)
  clear q A0 C
  obtain ⟨c0, c1, c2⟩ := (A1.out.atBox 1 rfl).c3
  go_wp2_with fail
  refine (copyDisk_calls p h b P H B _ (RP.out.below A1.out.below) (RH.out.below A1.out.below) (RB.out.below A1.out.below) (by rw [LP.out]; exact nn) (by rw [LH.out]; exact nn) (by rw [LB.out]; exact nn) H28.out HH28.out).mono ?_
  rintro e w2 ⟨p2, h2, b2, rfl, d, q⟩
  obtain ⟨ap2, cp2, ah2, ch2, ab2, cb2, rfl, rfl, rfl⟩ := d.sl
  have lt2 := q.size
  have A2 := hide ((A1.out.add q (TDsk.st _ _ _ _ _ _) d).box #[.slice ap2 P.length cp2, .slice ah2 H.length ch2, .slice ab2 B.length cb2] 30)
  clear q d A1 c0 c1 c2
  obtain ⟨lo, hi, d2, lw, hw, put⟩ := A2.out.open 1 rfl
  have D2 : Hid (DskV _ lo hi _ _ _ P H B) := d2
  have PUT := hide put
  clear d2 put
  go_wp2_with fail
  refine (crashTo_calls _ _ _ v P H B ks lo hi n ok _ D2.out hw LP.out LH.out LB.out nn hkl (fun w' hc => RV.out.below (A2.out.below.trans (hc.below lw A2.out.below.size))) HK.out).mono ?_
  rintro e w3 ⟨rfl, d3, c3⟩
  cases ok with
  | false =>
    have A3 := hide (PUT.out w3 (fun _ _ _ => True) (fun _ _ _ _ _ _ _ _ _ => trivial) trivial c3)
    clear d3 c3 A2 D2 PUT lw hw
    have xr := A3.out.atBox 2 rfl
    obtain ⟨d0, d1, d2⟩ := xr.c3
    have g0 := xr.frozen 0
    have g1 := xr.frozen 1
    have g2 := xr.frozen 2
    have A4 := hide (A3.out.store3 2 rfl (.slice none 0 0) (.slice none 0 0) (.slice none 0 0))
    clear xr
    go_wp2
    exact bodyPost_ret (res_dsk2 rfl _ _ (w.heap.size + 1) _ _ _ (0, 0) rfl (A4.out.atBox 2 rfl)) rfl ⟨_, _, _, rfl, DskV.nil _ _ _, A4.out.below⟩
  | true =>
    have A3 := hide (PUT.out w3 (TDsk _ _ _ _ _ _) (TDsk.st _ _ _ _ _ _) (d3 rfl) c3)
    clear d3 c3 A2 D2 PUT lw hw
    have xr := A3.out.atBox 2 rfl
    obtain ⟨d0, d1, d2⟩ := xr.c3
    have g0 := xr.frozen 0
    have g1 := xr.frozen 1
    have g2 := xr.frozen 2
    obtain ⟨c0, c1, c2⟩ := (A3.out.atBox 0 rfl).c3
    have A4 := hide (A3.out.store3 2 rfl (.slice ap2 P.length cp2) (.slice ah2 H.length ch2) (.slice ab2 B.length cb2))
    clear xr
    go_wp2
    exact bodyPost_ret (res_dsk2 rfl _ _ (w.heap.size + 1) _ _ _ (0, 0) rfl (A4.out.atBox 2 rfl)) rfl ⟨_, _, _, rfl, A4.out.wide 1 rfl, A4.out.below⟩

end Go.Proofs.Ytpgmocogffolaaa

namespace Go.Proofs.Ytpgmocogffolaaa
open Go.RowKit
set_option linter.unusedVariables false

/-- The first k bytes are changed. -/
def rotK (l m : List Nat) : Nat → List Nat
  | 0 => l
  | k + 1 => (rotK l m k).set k (l.getD k 0 ^^^ m.getD k 0)
theorem rotK_len (l m : List Nat) : ∀ k, (rotK l m k).length = l.length
  | 0 => rfl
  | k + 1 => by rw [rotK, List.length_set]; exact rotK_len l m k
theorem rotK_at (l m : List Nat) : ∀ k i, k ≤ i → (rotK l m k).getD i 0 = l.getD i 0
  | 0, _, _ => rfl
  | k + 1, i, h => by
    rw [rotK, List.getD_eq_getElem?_getD, List.getElem?_set_ne (by omega), ← List.getD_eq_getElem?_getD]
    exact rotK_at l m k i (by omega)
theorem rotK_small {l m : List Nat} (hl : ∀ b ∈ l, b < 256) (hm : ∀ b ∈ m, b < 256) : ∀ k, ∀ b ∈ rotK l m k, b < 256
  | 0 => hl
  | k + 1 => by
    intro b hb
    rcases List.mem_or_eq_of_mem_set hb with h | h
    · exact rotK_small hl hm k b h
    · rw [h]
      exact Nat.xor_lt_two_pow (n := 8) (getD_lt hl k) (getD_lt hm k)
/-- A text of which the first bytes are changed by a mask's. -/
def rotT (s m : ByteArray) : ByteArray := ofN (rotK (bs s) (bs m) m.size)
theorem rotT_size (s m : ByteArray) : (rotT s m).size = s.size := by
  unfold rotT
  rw [ofN_size, rotK_len, bs_length]

set_option maxRecDepth 100000 in
set_option maxHeartbeats 800000 in
theorem l7Rot_calls (s m : ByteArray) (w : World) (hs : s.size ≤ 28) (hm : m.size ≤ s.size) :
    Calls Try.prog 132 #[.string s, .string m] w fun e w' => e = .returned (.string (rotT s m)) ∧ Below w.heap.size w w' := by
  have hcv := conv_bytes s
  have M := hide (bytesW_row s w)
  have G0 := hide (bytesW_below s w)
  go_enter Try.func132, Try.ntmps132
  go_wp2
  go_loopw [6] (fun vi wr => ∃ k : Nat, k ≤ m.size ∧ vi = .int .i64 k ∧ BRow wr w.heap.size (bytesC s w) (rotK (bs s) (bs m) k) ∧ Below w.heap.size w wr) (fun vi _ => m.size - (intOf vi).toNat)
  case atStart => exact ⟨0, Nat.zero_le _, rfl, M.out, G0.out⟩
  case round =>
    obtain ⟨k, hk, rfl, hrow, hb⟩ := hrel
    by_cases hlt : k < m.size
    · have hlen : (rotK (bs s) (bs m) k).length = s.size := by rw [rotK_len, bs_length]
      have hc1 := hrow.cell k (by omega)
      have hc2 := hrow.frozen k (by omega)
      rw [rotK_at (bs s) (bs m) k k (Nat.le_refl _)] at hc1
      have ST : Hid (rotK (bs s) (bs m) (k + 1) = (rotK (bs s) (bs m) k).set k ((bs s).getD k 0 ^^^ (bs m).getD k 0)) := rfl
      have hmk : (bs m).getD k 0 = m[k].toNat := bs_getD m k hlt
      rw [hmk] at ST
      have hx : (bs s).getD k 0 < 256 := getD_lt (bs_lt s) k
      have hy : m[k].toNat < 256 := m[k].toNat_lt
      have hst := hrow.set k ((bs s).getD k 0 ^^^ m[k].toNat)
      generalize (bs s).getD k 0 = x at hc1 ST hx hst
      have XX := hide (u8_xor_nat x m[k].toNat hx hy)
      have HS := hide hst
      have HB := hide hb
      have hlt' : (k : Int) < (m.size : Int) := by omega
      have hlts : (k : Int) < (s.size : Int) := by omega
      clear hlen hmk hst hrow hb hy
      go_wp2
      go_region
      go_wp2
      refine ⟨⟨k + 1, by omega, by go_num, ?_, (HB.out.setCell (p := ⟨w.heap.size, k, none⟩) (Nat.le_refl _) _).drew⟩, by simp [intOf]; omega⟩
      rw [XX.out, ST.out]
      exact HS.out.drew
    · obtain rfl : k = m.size := by omega
      have hcr := conv_row hrow (rotK_small (bs_lt s) (bs_lt m) _) (n := s.size) (by rw [rotK_len, bs_length])
      have HB := hide hb
      clear hrow hb
      go_wp2
      go_ret
      exact ⟨rfl, HB.out⟩

/-- The plate of a sector may rot so. -/
def roOk (P H : List ByteArray) (k : Nat) (T : ByteArray) : Prop := H.getD k ⟨#[]⟩ = ⟨#[]⟩ ∧ 1 ≤ T.size ∧ T.size ≤ (P.getD k ⟨#[]⟩).size

set_option maxRecDepth 100000 in
set_option maxHeartbeats 1600000 in
theorem rotPlate_calls (p h b : Value) (P H : List ByteArray) (B : List Bool) (lo hi n k : Nat) (T : ByteArray) (y : Bool) (w : World) (d : DskV w lo hi p h b P H B) (hhi : hi ≤ w.heap.size) (hP : P.length = n) (hH : H.length = n) (hB : B.length = n) (hn : 0 < n ∧ n ≤ 24) (hk : k < n) (hT : T.size ≤ 1048576)
    (h28 : (P.getD k ⟨#[]⟩).size ≤ 28) (hy : y = true ↔ roOk P H k T) :
    Calls Try.prog 137 #[.agg #[p, h, b], .int .i64 (k : Int), .string T] w fun e w' => e = .returned (.bool y) ∧ (y = true → DskV w' lo hi p h b (P.set k (rotT (P.getD k ⟨#[]⟩) T)) H B) ∧ Chg lo hi w w' := by
  obtain ⟨gp, cp, gh, ch, gb, cb, rfl, rfl, rfl, n1, n2, n3, ⟨t1, t2, t3⟩, _⟩ := d.blocks hP hH hB hn.1
  have HY : Hid (y = true ↔ (H.getD k ⟨#[]⟩ = ⟨#[]⟩ ∧ 1 ≤ T.size ∧ T.size ≤ (P.getD k ⟨#[]⟩).size)) := hy
  obtain ⟨W1, e1⟩ : ∃ W1, W1 = w.alloc (.cells #[.slice (some ⟨gp, 0, none⟩) n cp, .slice (some ⟨gh, 0, none⟩) n ch, .slice (some ⟨gb, 0, none⟩) n cb] 30) := ⟨_, rfl⟩
  have s1 : W1.heap.size = w.heap.size + 1 := by rw [e1]; simp
  have b1 : Below w.heap.size w W1 := by rw [e1]; exact below_box _ _
  have x1 : BoxAt W1 w.heap.size #[.slice (some ⟨gp, 0, none⟩) n cp, .slice (some ⟨gh, 0, none⟩) n ch, .slice (some ⟨gb, 0, none⟩) n cb] 30 := by rw [e1]; exact BoxAt.new _ _ _
  have d1 := d.below b1
  have E1 := hide e1.symm
  have C1 := hide (Chg.ofBelow (lo := lo) (hi := hi) b1)
  have X1 := hide x1
  have D1 := hide d1
  have LP := hide hP
  have hk' : (k : Int) < (n : Int) := by omega
  obtain ⟨hp1, _⟩ := d1.cellP hP k hk
  obtain ⟨hh1, _⟩ := d1.cellH hH k hk
  obtain ⟨c0, c1, c2⟩ := x1.c3
  have eN : (w.alloc (.cells #[.slice (some ⟨gp, 0, none⟩) n cp, .slice (some ⟨gh, 0, none⟩) n ch, .slice (some ⟨gb, 0, none⟩) n cb] 30)).heap.size = w.heap.size + 1 := by simp
  rw [e1] at hp1 hh1
  clear hy d d1 b1 x1 hP hH hB c0 c1 c2
  generalize P.getD k ⟨#[]⟩ = s at *
  generalize H.getD k ⟨#[]⟩ = z at *
  by_cases hz : z.size = 0
  case neg =>
    obtain ⟨zz1, zz2⟩ := toList_ne (z := z) (fun e => hz (by rw [e]; rfl))
    have e0 : Hid (y = false) := by
      show y = false
      cases y with
      | false => rfl
      | true => exact absurd (by rw [(HY.out.1 rfl).1]; rfl) hz
    clear hz eN e1
    go_enter Try.func137, Try.ntmps137
    go_wp2
    go_ret
    exact ⟨ret_bool e0.out.symm, fun h => by rw [e0.out] at h; simp at h, by rw [E1.out]; exact C1.out⟩
  have hzz := size_zero hz
  subst hzz
  clear hz
  by_cases hT0 : T.size = 0
  · have hTT := size_zero hT0
    subst hTT
    have e0 : Hid (y = false) := by
      show y = false
      cases y with
      | false => rfl
      | true => exact absurd (HY.out.1 rfl).2.1 (by decide)
    clear hT0 eN e1
    go_enter Try.func137, Try.ntmps137
    go_wp2
    go_ret
    exact ⟨ret_bool e0.out.symm, fun h => by rw [e0.out] at h; simp at h, by rw [E1.out]; exact C1.out⟩
  obtain ⟨tt1, tt2⟩ := toList_ne (z := T) (fun e => hT0 (by rw [e]; rfl))
  by_cases hTs : T.size ≤ s.size
  case neg =>
    have u1 : (s.size : Int) < (T.size : Int) := by omega
    have e0 : Hid (y = false) := by
      show y = false
      cases y with
      | false => rfl
      | true => exact absurd (HY.out.1 rfl).2.2 hTs
    clear hT0 eN e1 hTs
    go_enter Try.func137, Try.ntmps137
    go_wp2
    go_ret
    exact ⟨ret_bool e0.out.symm, fun h => by rw [e0.out] at h; simp at h, by rw [E1.out]; exact C1.out⟩
  have u1 : ¬ (s.size : Int) < (T.size : Int) := by omega
  have e0 : Hid (y = true) := HY.out.2 ⟨rfl, by omega, hTs⟩
  clear HY
  have hcv := conv_bytes s
  have M := bytesW_row s W1
  have G0 := bytesW_below s W1
  have M0 := hide M
  have G1 := hide G0
  have S1 := hide s1
  clear M G0 s1 e1 hT0
  go_enter Try.func137, Try.ntmps137
  go_wp2
  rw [E1.out]
  clear hp1 hh1
  go_loopw [8, 38] (fun _ vi wr => ∃ j : Nat, j ≤ T.size ∧ vi = .int .i64 j ∧ BRow wr (w.heap.size + 1) (bytesC s W1) (rotK (bs s) (bs T) j) ∧ Below W1.heap.size W1 wr) (fun _ vi _ => T.size - (intOf vi).toNat)
  case atStart => exact ⟨0, Nat.zero_le _, rfl, by rw [← S1.out]; exact M0.out, G1.out⟩
  case round =>
    obtain ⟨j, hj, rfl, hrow, hb⟩ := hrel
    by_cases hlt : j < T.size
    · have hlen : (rotK (bs s) (bs T) j).length = s.size := by rw [rotK_len, bs_length]
      have hc1 := hrow.cell j (by omega)
      have hc2 := hrow.frozen j (by omega)
      rw [rotK_at (bs s) (bs T) j j (Nat.le_refl _)] at hc1
      have ST : Hid (rotK (bs s) (bs T) (j + 1) = (rotK (bs s) (bs T) j).set j ((bs s).getD j 0 ^^^ (bs T).getD j 0)) := rfl
      have hmk : (bs T).getD j 0 = T[j].toNat := bs_getD T j hlt
      rw [hmk] at ST
      have hx : (bs s).getD j 0 < 256 := getD_lt (bs_lt s) j
      have hy : T[j].toNat < 256 := T[j].toNat_lt
      have hst := hrow.set j ((bs s).getD j 0 ^^^ T[j].toNat)
      generalize (bs s).getD j 0 = x at hc1 ST hx hst
      have XX := hide (u8_xor_nat x T[j].toNat hx hy)
      have HS := hide hst
      have HB := hide hb
      have hlt' : (j : Int) < (T.size : Int) := by omega
      have hlts : (j : Int) < (s.size : Int) := by omega
      have hlt0 : j < s.size := by omega
      clear hlen hmk hst hrow hb hy
      go_wp2
      go_region
      go_wp2
      refine ⟨⟨j + 1, by omega, by go_num, ?_, (HB.out.setCell (p := ⟨w.heap.size + 1, j, none⟩) (by rw [S1.out]; exact Nat.le_refl _) _).drew⟩, by simp [intOf]; omega⟩
      rw [XX.out, ST.out]
      exact HS.out.drew
    · obtain rfl : j = T.size := by omega
      have hcr := conv_row hrow (rotK_small (bs_lt s) (bs_lt T) _) (n := s.size) (by rw [rotK_len, bs_length])
      have dw := D1.out.below hb
      obtain ⟨q1, q2⟩ := dw.cellP LP.out k hk
      obtain ⟨dp, cpp⟩ := dw.putP LP.out k (rotT s T) (by rw [rotT_size]; unfold maxLen; omega)
      obtain ⟨c0, c1, c2⟩ := (X1.out.below hb).c3
      have DP := hide dp
      have CP := hide ((C1.out.trans (Chg.ofBelow hb)).trans cpp)
      unfold rotT at DP CP
      clear hrow hb dw dp cpp c1 c2
      go_wp2
      go_ret
      refine ⟨ret_bool e0.out.symm, fun _ => ?_, CP.out⟩
      unfold rotT
      exact DP.out
end Go.Proofs.Ytpgmocogffolaaa

namespace Go.Proofs.Ytpgmocogffolaaa
open Go.RowKit
set_option linter.unusedVariables false

/-- The text may be held there. -/
def hoOk (B : List Bool) (k : Nat) (T : ByteArray) : Prop := B.getD k false = false ∧ 1 ≤ T.size ∧ T.size ≤ 28

set_option linter.unusedSimpArgs false in
set_option maxRecDepth 100000 in
set_option maxHeartbeats 1600000 in
theorem holdText_calls (p h b : Value) (P H : List ByteArray) (B : List Bool) (lo hi n k : Nat) (T : ByteArray) (y : Bool) (w : World) (d : DskV w lo hi p h b P H B) (hhi : hi ≤ w.heap.size) (hP : P.length = n) (hH : H.length = n) (hB : B.length = n) (hn : 0 < n ∧ n ≤ 24) (hk : k < n) (hT : T.size ≤ 1048576) (hy : y = true ↔ hoOk B k T) :
    Calls Try.prog 136 #[.agg #[p, h, b], .int .i64 (k : Int), .string T] w fun e w' => e = .returned (.bool y) ∧ (y = true → DskV w' lo hi p h b P (H.set k T) B) ∧ Chg lo hi w w' := by
  obtain ⟨gp, cp, gh, ch, gb, cb, rfl, rfl, rfl, n1, n2, n3, ⟨t1, t2, t3⟩, _⟩ := d.blocks hP hH hB hn.1
  have HY : Hid (y = true ↔ (B.getD k false = false ∧ 1 ≤ T.size ∧ T.size ≤ 28)) := hy
  have b1 := below_box w (.cells #[.slice (some ⟨gp, 0, none⟩) n cp, .slice (some ⟨gh, 0, none⟩) n ch, .slice (some ⟨gb, 0, none⟩) n cb] 30)
  have C1 : Hid (Chg lo hi w (w.alloc (.cells #[.slice (some ⟨gp, 0, none⟩) n cp, .slice (some ⟨gh, 0, none⟩) n ch, .slice (some ⟨gb, 0, none⟩) n cb] 30))) := Chg.ofBelow b1
  have X1 := hide (BoxAt.new w #[.slice (some ⟨gp, 0, none⟩) n cp, .slice (some ⟨gh, 0, none⟩) n ch, .slice (some ⟨gb, 0, none⟩) n cb] 30)
  have d1 := d.below b1
  have D1 := hide d1
  have LH := hide hH
  have hk' : (k : Int) < (n : Int) := by omega
  obtain ⟨hb1, _⟩ := d1.cellB hB k hk
  clear hy d d1 b1 hP hH hB
  generalize B.getD k false = bad at *
  cases bad with
  | true =>
    have e0 : Hid (y = false) := by
      show y = false
      cases y with
      | false => rfl
      | true => exact absurd (HY.out.1 rfl).1 (by simp)
    go_enter Try.func136, Try.ntmps136
    go_wp2
    go_ret
    exact ⟨ret_bool e0.out.symm, fun h => by rw [e0.out] at h; simp at h, C1.out⟩
  | false =>
  by_cases hT0 : T.size = 0
  · have hTT := size_zero hT0
    subst hTT
    have e0 : Hid (y = false) := by
      show y = false
      cases y with
      | false => rfl
      | true => exact absurd (HY.out.1 rfl).2.1 (by decide)
    clear hT0
    go_enter Try.func136, Try.ntmps136
    go_wp2
    go_ret
    exact ⟨ret_bool e0.out.symm, fun h => by rw [e0.out] at h; simp at h, C1.out⟩
  obtain ⟨tt1, tt2⟩ := toList_ne (z := T) (fun e => hT0 (by rw [e]; rfl))
  obtain ⟨f, hf⟩ : ∃ f : Bool, f = true ↔ T.size ≤ 28 := ⟨decide (T.size ≤ 28), by simp⟩
  have CF := hide (fun W => fitsSector_calls T f W hf (by unfold maxLen; omega))
  have HF := hide hf
  clear hf
  cases f with
  | false =>
    have e0 : Hid (y = false) := by
      show y = false
      cases y with
      | false => rfl
      | true => exact absurd (HF.out.2 (HY.out.1 rfl).2.2) (by simp)
    clear hT0
    go_enter Try.func136, Try.ntmps136
    go_wp2_with fail
    refine (CF.out _).mono ?_
    rintro e w1 ⟨rfl, rfl⟩
    go_wp2
    go_ret
    exact ⟨ret_bool e0.out.symm, fun h => by rw [e0.out] at h; simp at h, C1.out⟩
  | true =>
  have e0 : Hid (y = true) := HY.out.2 ⟨rfl, by omega, HF.out.1 rfl⟩
  clear HY
  go_enter Try.func136, Try.ntmps136
  go_wp2_with fail
  refine (CF.out _).mono ?_
  rintro e w1 ⟨rfl, rfl⟩
  clear hb1
  go_wp2
  have hw1 := hide (show w.heap.size < (w.alloc (.cells #[.slice (some ⟨gp, 0, none⟩) n cp, .slice (some ⟨gh, 0, none⟩) n ch, .slice (some ⟨gb, 0, none⟩) n cb] 30)).heap.size from X1.out.lt)
  generalize w.alloc (.cells #[.slice (some ⟨gp, 0, none⟩) n cp, .slice (some ⟨gh, 0, none⟩) n ch, .slice (some ⟨gb, 0, none⟩) n cb] 30) = W1 at *
  refine wp_region_noPanic ?_
  refine wp_region_held_drew (S := fun w' => w'.cell? ⟨w.heap.size, 1, none⟩ = some (.slice (some ⟨gh, 0, none⟩) n ch)) (by kernel_rfl) ((X1.out.below (Below.refl _ _).drew).c3.2.1) (fun hHeld => ?_)
  have BV := hide (Below.refl W1.heap.size W1).drew
  generalize W1.drew = V0 at *
  refine wpAnyH_take (i := 0) (v := ?v1) rfl (by kernel_rfl) (by kernel_rfl) (by kernel_rfl) (fun _ _ _ h => h) (Or.inl ⟨by rfl, ?hy1⟩) (by assumption) ?rest1
  case hy1 => (intro w' hSw; dsimp only [List.getElem_toArray, List.getElem_cons_zero, List.getElem_cons_succ] at hSw ⊢; go_simp; try (with_reducible rfl))
  try simp only [Act.put, List.getElem_toArray, List.getElem_cons_zero, List.getElem_cons_succ, List.setIfInBounds_toArray, List.set_cons_zero, List.set_cons_succ]
  refine wpAnyH_take (i := 1) (v := ?v2) rfl (by kernel_rfl) (by kernel_rfl) (by kernel_rfl) (fun _ _ _ h => h) (Or.inl ⟨by rfl, ?hy2⟩) (by assumption) ?rest2
  case hy2 => (intro w' hSw; dsimp only [List.getElem_toArray, List.getElem_cons_zero, List.getElem_cons_succ] at hSw ⊢; go_simp; try (with_reducible rfl))
  try simp only [Act.put, List.getElem_toArray, List.getElem_cons_zero, List.getElem_cons_succ, List.setIfInBounds_toArray, List.set_cons_zero, List.set_cons_succ]
  refine wpAnyH_take (i := 2) (v := ?v3) rfl (by kernel_rfl) (by kernel_rfl) (by kernel_rfl) (fun _ _ _ h => h) (Or.inl ⟨by rfl, ?hy3⟩) (by assumption) ?rest3
  case hy3 => (intro w' hSw; dsimp only [List.getElem_toArray, List.getElem_cons_zero, List.getElem_cons_succ] at hSw ⊢; go_simp; try (with_reducible rfl))
  try simp only [Act.put, List.getElem_toArray, List.getElem_cons_zero, List.getElem_cons_succ, List.setIfInBounds_toArray, List.set_cons_zero, List.set_cons_succ]
  refine wpAnyH_take (i := 3) (v := ?v4) rfl (by kernel_rfl) (by kernel_rfl) (by kernel_rfl) (fun _ _ _ h => h) (Or.inl ⟨by rfl, ?hy4⟩) (by assumption) ?rest4
  case hy4 => (intro w' hSw; dsimp only [List.getElem_toArray, List.getElem_cons_zero, List.getElem_cons_succ] at hSw ⊢; go_simp; try (with_reducible rfl))
  try simp only [Act.put, List.getElem_toArray, List.getElem_cons_zero, List.getElem_cons_succ, List.setIfInBounds_toArray, List.set_cons_zero, List.set_cons_succ]
  refine wpAnyH_ready (rs := [4]) (by kernel_rfl) (by simp) ?_
  refine AllReadyH.cons rfl (fun K hK => ?_) AllReadyH.nil
  dsimp only [List.getElem_toArray, List.getElem_cons_zero, List.getElem_cons_succ]
  go_simp
  refine (clone_calls T _ hT).mono ?_
  rintro e' u1 ⟨rfl, bb⟩
  have B2 := hide (BV.out.trans (bb.mono BV.out.size))
  clear bb hHeld BV
  refine hK.out _ _ ((X1.out.below B2.out).c3.2.1) (fun hHeld => ?_)
  clear hK K
  try simp only [Act.put, List.getElem_toArray, List.getElem_cons_zero, List.getElem_cons_succ, List.setIfInBounds_toArray, List.set_cons_zero, List.set_cons_succ]
  refine wpAnyH_take (i := 5) (v := ?v5) rfl (by kernel_rfl) (by kernel_rfl) (by kernel_rfl) (fun _ _ _ h => h) (Or.inl ⟨by rfl, ?hy5⟩) (by assumption) ?rest5
  case hy5 => (intro w' hSw; dsimp only [List.getElem_toArray, List.getElem_cons_zero, List.getElem_cons_succ] at hSw ⊢; go_simp; try (with_reducible rfl))
  try simp only [Act.put, List.getElem_toArray, List.getElem_cons_zero, List.getElem_cons_succ, List.setIfInBounds_toArray, List.set_cons_zero, List.set_cons_succ]
  refine wpAnyH_ready (rs := [6]) (by kernel_rfl) (by simp) ?_
  refine AllReadyH.cons rfl (fun K hK => ?_) AllReadyH.nil
  have d2 := D1.out.below B2.out
  obtain ⟨q1, q2⟩ := d2.cellH LH.out k hk
  obtain ⟨dp, cpp⟩ := d2.putH LH.out k T (by unfold maxLen; omega)
  have DP := hide dp
  have CP := hide ((C1.out.trans (Chg.ofBelow B2.out)).trans cpp)
  have cN := ((X1.out.below B2.out).chg cpp (.inr hhi)).c3.2.1
  clear d2 dp cpp hHeld
  dsimp only [List.getElem_toArray, List.getElem_cons_zero, List.getElem_cons_succ]
  go_simp
  refine hK.out _ _ (cN) (fun hHeld => ?_)
  clear hK K
  try simp only [Act.put, List.getElem_toArray, List.getElem_cons_zero, List.getElem_cons_succ, List.setIfInBounds_toArray, List.set_cons_zero, List.set_cons_succ]
  refine wpAnyH_done (by kernel_rfl) ?_ _
  refine NoPanic.normal ?_
  go_wp2
  go_ret
  exact ⟨ret_bool e0.out.symm, fun _ => DP.out, CP.out⟩

set_option linter.unusedSimpArgs false in
set_option maxRecDepth 100000 in
set_option maxHeartbeats 1600000 in
theorem healSector_calls (p h b : Value) (P H : List ByteArray) (B : List Bool) (lo hi n k : Nat) (w : World) (d : DskV w lo hi p h b P H B) (hhi : hi ≤ w.heap.size) (hP : P.length = n) (hH : H.length = n) (hB : B.length = n) (hn : 0 < n ∧ n ≤ 24) (hk : k < n) (y : Bool) (hy : B.getD k false = y) :
    Calls Try.prog 138 #[.agg #[p, h, b], .int .i64 (k : Int)] w fun e w' => e = .returned (.bool y) ∧ (y = true → DskV w' lo hi p h b (P.set k ⟨#[]⟩) H (B.set k false)) ∧ Chg lo hi w w' := by
  obtain ⟨gp, cp, gh, ch, gb, cb, rfl, rfl, rfl, n1, n2, n3, ⟨t1, t2, t3⟩, _⟩ := d.blocks hP hH hB hn.1
  have b1 := below_box w (.cells #[.slice (some ⟨gp, 0, none⟩) n cp, .slice (some ⟨gh, 0, none⟩) n ch, .slice (some ⟨gb, 0, none⟩) n cb] 30)
  have C1 : Hid (Chg lo hi w (w.alloc (.cells #[.slice (some ⟨gp, 0, none⟩) n cp, .slice (some ⟨gh, 0, none⟩) n ch, .slice (some ⟨gb, 0, none⟩) n cb] 30))) := Chg.ofBelow b1
  have X1 := hide (BoxAt.new w #[.slice (some ⟨gp, 0, none⟩) n cp, .slice (some ⟨gh, 0, none⟩) n ch, .slice (some ⟨gb, 0, none⟩) n cb] 30)
  have d1 := d.below b1
  have D1 := hide d1
  have LP := hide hP
  have LB := hide hB
  have hk' : (k : Int) < (n : Int) := by omega
  obtain ⟨hb1, _⟩ := d1.cellB hB k hk
  rw [hy] at hb1
  clear hy d d1 b1 hP hH hB
  cases y with
  | false =>
    go_enter Try.func138, Try.ntmps138
    go_wp2
    go_ret
    exact ⟨rfl, fun h => by simp at h, C1.out⟩
  | true =>
  go_enter Try.func138, Try.ntmps138
  go_wp2
  clear hb1
  have hw1 := hide (show w.heap.size < (w.alloc (.cells #[.slice (some ⟨gp, 0, none⟩) n cp, .slice (some ⟨gh, 0, none⟩) n ch, .slice (some ⟨gb, 0, none⟩) n cb] 30)).heap.size from X1.out.lt)
  generalize w.alloc (.cells #[.slice (some ⟨gp, 0, none⟩) n cp, .slice (some ⟨gh, 0, none⟩) n ch, .slice (some ⟨gb, 0, none⟩) n cb] 30) = W1 at *
  refine wp_region_noPanic ?_
  refine wp_region_held_drew (S := fun w' => w'.cell? ⟨w.heap.size, 0, none⟩ = some (.slice (some ⟨gp, 0, none⟩) n cp) ∧ w'.cell? ⟨w.heap.size, 2, none⟩ = some (.slice (some ⟨gb, 0, none⟩) n cb)) (by kernel_rfl) (⟨(X1.out.below (Below.refl _ _).drew).c3.1, (X1.out.below (Below.refl _ _).drew).c3.2.2⟩) (fun hHeld => ?_)
  have DV := hide (D1.out.below (Below.refl _ _).drew)
  have XV := hide (X1.out.below (Below.refl _ _).drew)
  have CV : Hid (Chg lo hi w W1.drew) := C1.out.trans (Chg.ofBelow (Below.refl _ _).drew)
  clear D1 X1 C1 hw1
  generalize W1.drew = V0 at *
  refine wpAnyH_take (i := 0) (v := ?v6) rfl (by kernel_rfl) (by kernel_rfl) (by kernel_rfl) (fun _ _ _ h => h) (Or.inl ⟨by rfl, ?hy6⟩) (by assumption) ?rest6
  case hy6 => (intro w' hSw; dsimp only [List.getElem_toArray, List.getElem_cons_zero, List.getElem_cons_succ] at hSw ⊢; go_simp; try (with_reducible rfl))
  try simp only [Act.put, List.getElem_toArray, List.getElem_cons_zero, List.getElem_cons_succ, List.setIfInBounds_toArray, List.set_cons_zero, List.set_cons_succ]
  refine wpAnyH_take (i := 1) (v := ?v7) rfl (by kernel_rfl) (by kernel_rfl) (by kernel_rfl) (fun _ _ _ h => h) (Or.inl ⟨by rfl, ?hy7⟩) (by assumption) ?rest7
  case hy7 => (intro w' hSw; dsimp only [List.getElem_toArray, List.getElem_cons_zero, List.getElem_cons_succ] at hSw ⊢; go_simp; try (with_reducible rfl))
  try simp only [Act.put, List.getElem_toArray, List.getElem_cons_zero, List.getElem_cons_succ, List.setIfInBounds_toArray, List.set_cons_zero, List.set_cons_succ]
  refine wpAnyH_take (i := 2) (v := ?v8) rfl (by kernel_rfl) (by kernel_rfl) (by kernel_rfl) (fun _ _ _ h => h) (Or.inl ⟨by rfl, ?hy8⟩) (by assumption) ?rest8
  case hy8 => (intro w' hSw; dsimp only [List.getElem_toArray, List.getElem_cons_zero, List.getElem_cons_succ] at hSw ⊢; go_simp; try (with_reducible rfl))
  try simp only [Act.put, List.getElem_toArray, List.getElem_cons_zero, List.getElem_cons_succ, List.setIfInBounds_toArray, List.set_cons_zero, List.set_cons_succ]
  refine wpAnyH_take (i := 3) (v := ?v9) rfl (by kernel_rfl) (by kernel_rfl) (by kernel_rfl) (fun _ _ _ h => h) (Or.inl ⟨by rfl, ?hy9⟩) (by assumption) ?rest9
  case hy9 => (intro w' hSw; dsimp only [List.getElem_toArray, List.getElem_cons_zero, List.getElem_cons_succ] at hSw ⊢; go_simp; try (with_reducible rfl))
  try simp only [Act.put, List.getElem_toArray, List.getElem_cons_zero, List.getElem_cons_succ, List.setIfInBounds_toArray, List.set_cons_zero, List.set_cons_succ]
  refine wpAnyH_take (i := 4) (v := ?v10) rfl (by kernel_rfl) (by kernel_rfl) (by kernel_rfl) (fun _ _ _ h => h) (Or.inl ⟨by rfl, ?hy10⟩) (by assumption) ?rest10
  case hy10 => (intro w' hSw; dsimp only [List.getElem_toArray, List.getElem_cons_zero, List.getElem_cons_succ] at hSw ⊢; go_simp; try (with_reducible rfl))
  try simp only [Act.put, List.getElem_toArray, List.getElem_cons_zero, List.getElem_cons_succ, List.setIfInBounds_toArray, List.set_cons_zero, List.set_cons_succ]
  refine wpAnyH_take (i := 5) (v := ?v11) rfl (by kernel_rfl) (by kernel_rfl) (by kernel_rfl) (fun _ _ _ h => h) (Or.inl ⟨by rfl, ?hy11⟩) (by assumption) ?rest11
  case hy11 => (intro w' hSw; dsimp only [List.getElem_toArray, List.getElem_cons_zero, List.getElem_cons_succ] at hSw ⊢; go_simp; try (with_reducible rfl))
  try simp only [Act.put, List.getElem_toArray, List.getElem_cons_zero, List.getElem_cons_succ, List.setIfInBounds_toArray, List.set_cons_zero, List.set_cons_succ]
  refine wpAnyH_take (i := 6) (v := ?v12) rfl (by kernel_rfl) (by kernel_rfl) (by kernel_rfl) (fun _ _ _ h => h) (Or.inl ⟨by rfl, ?hy12⟩) (by assumption) ?rest12
  case hy12 => (intro w' hSw; dsimp only [List.getElem_toArray, List.getElem_cons_zero, List.getElem_cons_succ] at hSw ⊢; go_simp; try (with_reducible rfl))
  try simp only [Act.put, List.getElem_toArray, List.getElem_cons_zero, List.getElem_cons_succ, List.setIfInBounds_toArray, List.set_cons_zero, List.set_cons_succ]
  refine wpAnyH_ready (rs := [7]) (by kernel_rfl) (by simp) ?_
  refine AllReadyH.cons rfl (fun K hK => ?_) AllReadyH.nil
  obtain ⟨q1, q2⟩ := DV.out.cellB LB.out k hk
  obtain ⟨dp, cpp⟩ := DV.out.putB LB.out k false
  have D2 := hide dp
  have C2 := hide (CV.out.trans cpp)
  have X2 := hide (XV.out.chg cpp (.inr hhi))
  clear dp cpp hHeld DV CV XV
  dsimp only [List.getElem_toArray, List.getElem_cons_zero, List.getElem_cons_succ]
  go_simp
  clear q1 q2
  refine hK.out _ _ (⟨X2.out.c3.1, X2.out.c3.2.2⟩) (fun hHeld => ?_)
  clear hK K
  try simp only [Act.put, List.getElem_toArray, List.getElem_cons_zero, List.getElem_cons_succ, List.setIfInBounds_toArray, List.set_cons_zero, List.set_cons_succ]
  refine wpAnyH_take (i := 8) (v := ?v13) rfl (by kernel_rfl) (by kernel_rfl) (by kernel_rfl) (fun _ _ _ h => h) (Or.inl ⟨by rfl, ?hy13⟩) (by assumption) ?rest13
  case hy13 => (intro w' hSw; dsimp only [List.getElem_toArray, List.getElem_cons_zero, List.getElem_cons_succ] at hSw ⊢; go_simp; try (with_reducible rfl))
  try simp only [Act.put, List.getElem_toArray, List.getElem_cons_zero, List.getElem_cons_succ, List.setIfInBounds_toArray, List.set_cons_zero, List.set_cons_succ]
  refine wpAnyH_ready (rs := [9]) (by kernel_rfl) (by simp) ?_
  refine AllReadyH.cons rfl (fun K hK => ?_) AllReadyH.nil
  obtain ⟨q1, q2⟩ := D2.out.cellP LP.out k hk
  obtain ⟨dp, cpp⟩ := D2.out.putP LP.out k ⟨#[]⟩ (Nat.zero_le _)
  have D3 := hide dp
  have C3 := hide (C2.out.trans cpp)
  have X3 := hide (X2.out.chg cpp (.inr hhi))
  clear dp cpp hHeld D2 C2 X2
  dsimp only [List.getElem_toArray, List.getElem_cons_zero, List.getElem_cons_succ]
  go_simp
  refine hK.out _ _ (⟨X3.out.c3.1, X3.out.c3.2.2⟩) (fun hHeld => ?_)
  clear hK K
  try simp only [Act.put, List.getElem_toArray, List.getElem_cons_zero, List.getElem_cons_succ, List.setIfInBounds_toArray, List.set_cons_zero, List.set_cons_succ]
  refine wpAnyH_done (by kernel_rfl) ?_ _
  refine NoPanic.normal ?_
  go_wp2
  go_ret
  exact ⟨rfl, fun _ => D3.out, C3.out⟩
end Go.Proofs.Ytpgmocogffolaaa

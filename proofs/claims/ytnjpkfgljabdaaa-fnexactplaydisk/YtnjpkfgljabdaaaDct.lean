/-
  A crash, on a disk of the call's own: the program's, call by call. The contract says what it asks.
-/
import Derived.Test.YtnjpkfgljabdaaaDpm
import Derived.Lib.SliceRun
namespace Go.Proofs.Ytnjpkfgljabdaaa
open Go.RowKit
set_option linter.unusedVariables false

theorem dsk_clear {lo hi gh ch n : Nat} {p b : Value} {P H : List ByteArray} {B : List Bool} (hH : H.length = n) : ∀ (m k : Nat) (w : World), k + m = n → DskV w lo hi p (.slice (some ⟨gh, 0, none⟩) n ch) b P (crHk H k) B →
    DskV (w.setCells gh k (List.replicate m (.string ⟨#[]⟩))) lo hi p (.slice (some ⟨gh, 0, none⟩) n ch) b P (crH H) B ∧ Chg lo hi w (w.setCells gh k (List.replicate m (.string ⟨#[]⟩)))
  | 0, k, w, hk, d => by
    obtain rfl : k = H.length := by omega
    rw [crHk_end] at d
    exact ⟨d, Chg.refl _ _ _⟩
  | m + 1, k, w, hk, d => by
    obtain ⟨d1, c1⟩ := d.putH (by rw [crHk_len]; exact hH) k ⟨#[]⟩ (Nat.zero_le _)
    rw [crHk_step H k (by omega)] at d1
    obtain ⟨d2, c2⟩ := dsk_clear hH m (k + 1) _ (by omega) d1
    exact ⟨d2, c1.trans c2⟩
theorem zero_str (w : World) : (zeroValue 9).run Try.prog w = .ok (.string ⟨#[]⟩) w := by
  obtain ⟨i0, hi, hz0, hz1, hz2⟩ := info_parts infoStr
  simp [zeroValue, typeInfo, hi, hz0]

set_option maxRecDepth 100000 in
set_option maxHeartbeats 1600000 in
theorem crashTo_calls (p h b v : Value) (P H : List ByteArray) (B : List Bool) (ks : List Int) (lo hi n : Nat) (g : Bool) (w : World) (d : DskV w lo hi p h b P H B) (hhi : hi ≤ w.heap.size) (hP : P.length = n) (hH : H.length = n) (hB : B.length = n) (hn : 0 < n ∧ n ≤ 24)
    (hkl : ks.length ≤ 1048576) (kv : ∀ w', Chg lo hi w w' → Rd w' v ks) (hg : g = true ↔ kpOk H ks) :
    Calls Try.prog 70 #[.agg #[p, h, b], v] w fun e w' => e = .returned (.bool g) ∧ (g = true → DskV w' lo hi p h b (crP P H ks) (crH H) B) ∧ Chg lo hi w w' := by
  obtain ⟨gp, cp, gh, ch, gb, cb, rfl, rfl, rfl, n1, n2, n3, ⟨t1, t2, t3⟩, _⟩ := d.blocks hP hH hB hn.1
  have KV := hide kv
  have HG := hide hg
  have D := hide d
  have LP := hide hP
  have LH := hide hH
  have LB := hide hB
  have A0 : Hid (Chg lo hi w (w.alloc (.cells #[.slice (some ⟨gp, 0, none⟩) n cp, .slice (some ⟨gh, 0, none⟩) n ch, .slice (some ⟨gb, 0, none⟩) n cb] 25))) := Chg.ofAlloc w _
  have X0 := hide (BoxAt.new w #[.slice (some ⟨gp, 0, none⟩) n cp, .slice (some ⟨gh, 0, none⟩) n ch, .slice (some ⟨gb, 0, none⟩) n cb] 25)
  have D0 := hide (d.below (below_box w (.cells #[.slice (some ⟨gp, 0, none⟩) n cp, .slice (some ⟨gh, 0, none⟩) n ch, .slice (some ⟨gb, 0, none⟩) n cb] 25)))
  have s0 : (w.alloc (.cells #[.slice (some ⟨gp, 0, none⟩) n cp, .slice (some ⟨gh, 0, none⟩) n ch, .slice (some ⟨gb, 0, none⟩) n cb] 25)).heap.size = w.heap.size + 1 := by simp
  clear kv hg d hP hH hB
  cases hr : rises ks (n : Int) with
  | false =>
    have HR := hide hr
    clear hr
    have e0 : Hid (g = false) := by
      show g = false
      cases g with
      | false => rfl
      | true =>
        have h1 := (rises_iff ks (n : Int)).2 (by rw [← LH.out]; exact (HG.out.1 rfl).1)
        rw [HR.out] at h1
        simp at h1
    go_enter Try.func70, Try.ntmps70
    go_wp2_with fail
    refine (areRising_calls _ ks (n : Int) _ (KV.out _ A0.out) (by omega) (by omega)).mono ?_
    rintro e w1 ⟨rfl, rfl⟩
    rw [HR.out]
    go_wp2
    go_ret
    exact ⟨ret_bool e0.out.symm, fun h => by rw [e0.out] at h; simp at h, A0.out⟩
  | true =>
  have HR := hide ((rises_iff ks (n : Int)).1 hr)
  have HRR := hide hr
  clear hr
  obtain ⟨y, hy⟩ : ∃ y : Bool, y = true ↔ ∀ i, i < ks.length → 0 < (H.getD (ks.getD i 0).toNat ⟨#[]⟩).size := by
    by_cases hh : ∀ i, i < ks.length → 0 < (H.getD (ks.getD i 0).toNat ⟨#[]⟩).size
    · exact ⟨true, fun _ => hh, fun _ => rfl⟩
    · exact ⟨false, fun h => by simp at h, fun h => absurd h hh⟩
  have CA := hide (allHeld_calls v ks w.heap.size _ H y _ (KV.out _ A0.out) X0.out.c3.2.1 D0.out.rh (fun i hi => by have := HR.out i hi; rw [LH.out]; exact ⟨this.1, this.2.1⟩) hy)
  have HYG : Hid (g = y) := by
    show g = y
    have hyk : kpOk H ks ↔ y = true := ⟨fun h => hy.2 h.2, fun h => ⟨by rw [LH.out]; exact HR.out, hy.1 h⟩⟩
    cases g with
    | true => exact (hyk.1 (HG.out.1 rfl)).symm
    | false =>
      cases y with
      | false => rfl
      | true => exact absurd (HG.out.2 (hyk.2 rfl)) (by simp)
  clear hy
  cases y with
  | false =>
    go_enter Try.func70, Try.ntmps70
    go_wp2_with fail
    refine (areRising_calls _ ks (n : Int) _ (KV.out _ A0.out) (by omega) (by omega)).mono ?_
    rintro e w1 ⟨rfl, rfl⟩
    rw [HRR.out]
    go_wp2_with fail
    refine CA.out.mono ?_
    rintro e w1 ⟨rfl, rfl⟩
    go_wp2
    go_ret
    exact ⟨ret_bool HYG.out.symm, fun h => by rw [HYG.out] at h; simp at h, A0.out⟩
  | true =>
  go_enter Try.func70, Try.ntmps70
  go_wp2_with fail
  refine (areRising_calls _ ks (n : Int) _ (KV.out _ A0.out) (by omega) (by omega)).mono ?_
  rintro e w1 ⟨rfl, rfl⟩
  rw [HRR.out]
  go_wp2_with fail
  refine CA.out.mono ?_
  rintro e w1 ⟨rfl, rfl⟩
  clear CA
  go_wp2_with fail
  refine (putOnPlate_calls _ _ _ v P H B ks lo hi n _ D0.out (by omega) LP.out LH.out LB.out hn (fun i hi => by have := HR.out i hi; exact ⟨this.1, this.2.1⟩) hkl (fun w' hc => KV.out _ (A0.out.trans hc))).mono ?_
  rintro e w2 ⟨rfl, d2, c2⟩
  have X2 := hide (X0.out.chg c2 (.inr hhi))
  obtain ⟨x0, x1, x2⟩ := X2.out.c3
  have d3 : DskV w2 lo hi (.slice (some ⟨gp, 0, none⟩) n cp) (.slice (some ⟨gh, 0, none⟩) n ch) (.slice (some ⟨gb, 0, none⟩) n cb) (crP P H ks) (crHk H 0) B := by rw [crHk_zero]; exact d2
  obtain ⟨d4, c4⟩ := dsk_clear LH.out n 0 w2 (by omega) d3
  have hcl := fun ty => Lib.run_clear_slice (P := Try.prog) w2 22 9 ty (.string ⟨#[]⟩) Try.underlying22 zero_str rfl rfl gh 0 n ch hn.1 (fun j hj => by rw [Nat.zero_add, (d2.cellH LH.out j hj).1]; rfl) (fun j hj => by rw [Nat.zero_add]; exact (d2.cellH LH.out j hj).2)
  have D4 := hide d4
  have C4 := hide ((A0.out.trans c2).trans c4)
  clear d2 c2 d3 d4 c4 x0 x2
  go_wp2
  go_ret
  exact ⟨ret_bool HYG.out.symm, fun _ => D4.out, C4.out⟩
end Go.Proofs.Ytnjpkfgljabdaaa

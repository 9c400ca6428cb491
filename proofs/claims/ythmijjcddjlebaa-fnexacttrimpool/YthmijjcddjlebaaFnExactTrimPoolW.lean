/-
  The law that holds the program's TrimPool against its model's: at every pool the call returns true, and nothing that was there is written. No condition.
-/
import Derived.Test.YthmijjcddjlebaaPln
namespace Go.Proofs.Ythmijjcddjlebaa
open Go.RowKit
set_option linter.unusedVariables false

theorem trP_small (m : List Nd) (bs : List Bool) (h : ∀ k, k < m.length → (m.getD k nd0).1.length = 4) : ∀ k, k ≤ m.length → totN (trP m bs k) ≤ 4 * k
  | 0, _ => by simp [trP, totN]
  | k + 1, hk => by
    have h1 := trP_small m bs h k (by omega)
    unfold trP
    rw [totN_app]
    split
    · have h2 := trB_len bs (m.getD k nd0)
      rw [h k (by omega)] at h2
      simp [totN] at h1 h2 ⊢
      omega
    · simp [totN] at h1 ⊢
      omega
theorem tr_small (m : List Nd) (vs : List Int) (ok : Bool) (h : ok = true ↔ okP m vs) : SzP (gX ok (trX m vs)) (gX ok (trY m vs)) := by
  cases ok with
  | false => exact ⟨by simp [gX, totN], by simp [gX]⟩
  | true =>
    have h0 := h.1 rfl
    have h1 := trP_small m (cmP m vs) (fun k hk => (h0.2.1 k hk).1) m.length (Nat.le_refl _)
    have h2 := trP_len m (cmP m vs) m.length
    have h3 := nmF_le (cmP m vs) m.length
    have h4 := h0.1.1
    have h5 := h0.1.2
    refine ⟨?_, ?_⟩
    · rw [gX_true, trX, h2]
      omega
    · rw [gX_true, trY, List.length_map]
      omega

set_option maxRecDepth 100000 in
set_option maxHeartbeats 3200000 in
theorem fnExactTrimPool_walk (p r : Value) (m : List Nd) (rs : List Int) (w : World) (h : RdP w p r m rs) :
    Calls Try.prog 11 #[.agg #[p, r]] w fun e w' => e = .returned (.bool true) ∧ Below w.heap.size w w' := by
  have R := hide h
  clear h
  obtain ⟨ok, hok⟩ := okP_bol m rs
  obtain ⟨y, hy⟩ : ∃ y, y = if ok = true then trW m rs else 0 := ⟨_, rfl⟩
  have C1 := hide (fun V p r h => sTrimPool_calls p r m rs ok y V h hok hy)
  have C2 := hide (fun V p r h => trimPool_calls p r m rs ok y V h hok hy)
  have SX := hide (tr_small m rs ok hok)
  generalize gX ok (trX m rs) = X at C1 C2 SX
  generalize gX ok (trY m rs) = Y at C1 C2 SX
  clear hok hy
  have A0 := hide ((Hand.start w).box #[p, r] 50)
  go_enter Try.func11, Try.ntmps11
  go_wp2_with fail
  refine (szPool_calls p r m rs _ (R.out.below A0.out.below)).mono ?_
  rintro e w1 ⟨⟨r1, rfl, hr⟩, q⟩
  have A1 := hide (A0.out.step q)
  clear A0 q
  by_cases r0 : r1 < 0
  · go_wp2
    go_ret
    exact ⟨rfl, A1.out.below⟩
  have SZ := hide (hr.resolve_left r0).2
  clear hr
  obtain ⟨caP0, caP1⟩ := (A1.out.atBox 0 rfl).c2
  go_wp2_with fail
  refine (toPool_calls p r m rs _ (R.out.below A1.out.below) SZ.out).mono ?_
  rintro e w2 ⟨pX, rX, rfl, d, q⟩
  obtain ⟨apX, cpX, arX, crX, rfl, rfl⟩ := d.sls
  have ltX := q.size
  (try simp only [World.size_alloc] at ltX)
  have A2 := hide (A1.out.add q (TPol.st _ _ _ _) d)
  clear A1 caP0 caP1 q d
  obtain ⟨loX, hiX, dX⟩ := A2.out.get 0 rfl
  have DX := hide (TPol.rd dX)
  clear dX
  go_wp2_with fail
  refine (C1.out _ _ _ DX.out).mono ?_
  rintro e w3 ⟨pW, rW, rfl, d, q⟩
  obtain ⟨apW, cpW, arW, crW, rfl, rfl⟩ := d.sls
  have ltW := q.size
  (try simp only [World.size_alloc] at ltW)
  have A3 := hide ((A2.out.add q (TPol.st _ _ _ _) d).box #[.slice apW X.length cpW, .slice arW Y.length crW] 43)
  clear A2 DX loX hiX q d
  obtain ⟨caP0, caP1⟩ := (A3.out.atBox 3 rfl).c2
  go_wp2_with fail
  refine (toPool_calls p r m rs _ (R.out.below A3.out.below) SZ.out).mono ?_
  rintro e w4 ⟨px, rx, rfl, d, q⟩
  obtain ⟨apx, cpx, arx, crx, rfl, rfl⟩ := d.sls
  have ltx := q.size
  (try simp only [World.size_alloc] at ltx)
  have A4 := hide ((A3.out.add q (TPol.st _ _ _ _) d).box #[.slice apx m.length cpx, .slice arx rs.length crx] 43)
  clear A3 caP0 caP1 q d
  obtain ⟨cbx0, cbx1⟩ := (A4.out.atBox 0 rfl).c2
  obtain ⟨lox, hix, dx⟩ := A4.out.get 1 rfl
  have Dx := hide (TPol.rd dx)
  clear dx
  go_wp2_with fail
  refine (C2.out _ _ _ Dx.out).mono ?_
  rintro e w5 ⟨pg, rg, rfl, d, q⟩
  obtain ⟨apg, cpg, arg, crg, rfl, rfl⟩ := d.sls
  have ltg := q.size
  (try simp only [World.size_alloc] at ltg)
  have A5 := hide ((A4.out.add q (TPol.st _ _ _ _) d).box #[.slice apg X.length cpg, .slice arg Y.length crg] 43)
  clear A4 cbx0 cbx1 Dx lox hix q d
  obtain ⟨cbg0, cbg1⟩ := (A5.out.atBox 0 rfl).c2
  obtain ⟨cbW0, cbW1⟩ := (A5.out.atBox 4 rfl).c2
  obtain ⟨log, hig, dg⟩ := A5.out.get 1 rfl
  have Dg := hide (TPol.rd dg)
  clear dg
  obtain ⟨loW, hiW, dW⟩ := A5.out.get 5 rfl
  have DW := hide (TPol.rd dW)
  clear dW
  go_wp2_with fail
  refine (eqPool_same _ _ _ _ X Y _ Dg.out DW.out).mono ?_
  rintro e w6 ⟨rfl, q⟩
  have A6 := hide (A5.out.step q)
  clear A5 cbg0 cbg1 cbW0 cbW1 Dg log hig DW loW hiW q
  go_wp2
  obtain ⟨lo, hi, dd⟩ := A6.out.get 3 rfl
  have D5 := hide (TPol.rd dd)
  clear dd
  have F : Hid (∀ w', Below w6.heap.size w6 w' → (w'.cell? ⟨w.heap.size, 0, none⟩ = some p ∧ w'.cell? ⟨w.heap.size, 1, none⟩ = some r) ∧ (w'.cell? ⟨w4.heap.size, 0, none⟩ = some (.slice apx m.length cpx) ∧ w'.cell? ⟨w4.heap.size, 1, none⟩ = some (.slice arx rs.length crx))) :=
    fun w' hb => ⟨((A6.out.step hb).atBox 7 rfl).c2, ((A6.out.step hb).atBox 2 rfl).c2⟩
  go_region_held3 (fun w' => (w'.cell? ⟨w.heap.size, 0, none⟩ = some p ∧ w'.cell? ⟨w.heap.size, 1, none⟩ = some r) ∧ (w'.cell? ⟨w4.heap.size, 0, none⟩ = some (.slice apx m.length cpx) ∧ w'.cell? ⟨w4.heap.size, 1, none⟩ = some (.slice arx rs.length crx))) (first | exact F.out _ (Below.refl _ _).drew | exact F.out _ B2.out | exact F.out _ B1.out)
    ((first | (go_at_call 28; refine (eqPool_same _ _ _ _ m rs _ (D5.out.below B1.out) D6.out).mono ?_; rintro e' wr7 ⟨rfl, b7⟩; have B2 := hide (B1.out.trans (b7.mono B1.out.size)); clear b7) | (go_at_call 33; refine (toPool_calls p r m rs _ (R.out.below (A6.out.step (Below.refl _ _).drew).below) SZ.out).mono ?_; rintro e' wr6 ⟨p3, h3, rfl, d6, b6⟩; have D6 := hide (TPol.rd d6); have B1 := hide ((Below.refl w6.heap.size w6).drew.trans b6); clear b6 d6)))
  have A7 := hide (A6.out.step B2.out)
  clear A6 F B1 B2 D5 D6 lo hi
  obtain ⟨cbx0, cbx1⟩ := (A7.out.atBox 2 rfl).c2
  obtain ⟨lox, hix, dx, lw, hw, put⟩ := A7.out.open 3 rfl
  have PUT := hide put
  have HW := hide hw
  clear put lw hw
  have Dx := hide dx
  clear dx
  go_wp2_with fail
  refine (markPool_calls _ _ m rs _ _ _ Dx.out HW.out SZ.out).mono ?_
  rintro e w8 ⟨rfl, d4, q⟩
  have A8 := hide (PUT.out _ (TPol _ _ _ _) (TPol.st _ _ _ _) d4 q)
  clear A7 cbx0 cbx1 lox hix PUT HW Dx q d4
  obtain ⟨kk, hkk⟩ : ∃ kk, kk = enP m rs := ⟨_, rfl⟩
  rw [← hkk]
  clear hkk
  have kn : ¬ ((kk : Int) < 0) := by omega
  obtain ⟨cbg0, cbg1⟩ := (A8.out.atBox 0 rfl).c2
  obtain ⟨cbW0, cbW1⟩ := (A8.out.atBox 4 rfl).c2
  obtain ⟨log, hig, dg⟩ := A8.out.get 1 rfl
  have Dg := hide (TPol.rd dg)
  clear dg
  obtain ⟨loW, hiW, dW⟩ := A8.out.get 5 rfl
  have DW := hide (TPol.rd dW)
  clear dW
  go_wp2_with fail
  refine (eqPool_same _ _ _ _ X Y _ Dg.out DW.out).mono ?_
  rintro e w9 ⟨rfl, q⟩
  have A9 := hide (A8.out.step q)
  clear A8 cbg0 cbg1 cbW0 cbW1 Dg log hig DW loW hiW q
  obtain ⟨cbg0, cbg1⟩ := (A9.out.atBox 0 rfl).c2
  obtain ⟨log, hig, dg, lw, hw, put⟩ := A9.out.open 1 rfl
  have PUT := hide put
  have HW := hide hw
  clear put lw hw
  have Dg := hide dg
  clear dg
  go_wp2_with fail
  refine (markPool_calls _ _ X Y _ _ _ Dg.out HW.out SX.out).mono ?_
  rintro e w10 ⟨rfl, d4, q⟩
  have A10 := hide (PUT.out _ (TPol _ _ _ _) (TPol.st _ _ _ _) d4 q)
  clear A9 cbg0 cbg1 log hig PUT HW Dg q d4
  obtain ⟨mm, hmm⟩ : ∃ mm, mm = enP X Y := ⟨_, rfl⟩
  rw [← hmm]
  have MM := hide hmm
  clear hmm
  have mn : ¬ ((mm : Int) < 0) := by omega
  obtain ⟨cbg0, cbg1⟩ := (A10.out.atBox 0 rfl).c2
  obtain ⟨log, hig, dg⟩ := A10.out.get 1 rfl
  have Dg := hide (TPol.rd dg)
  clear dg
  go_wp2_with fail
  refine (heldPool_calls _ _ X Y _ Dg.out SX.out).mono ?_
  rintro e w11 ⟨rfl, q⟩
  have A11 := hide (A10.out.step q)
  clear A10 cbg0 cbg1 Dg log hig q
  rw [← MM.out]
  obtain ⟨caP0, caP1⟩ := (A11.out.atBox 7 rfl).c2
  go_wp2_with fail
  refine (toPool_calls p r m rs _ (R.out.below A11.out.below) SZ.out).mono ?_
  rintro e w12 ⟨pz, rz, rfl, d, q⟩
  obtain ⟨apz, cpz, arz, crz, rfl, rfl⟩ := d.sls
  have ltz := q.size
  (try simp only [World.size_alloc] at ltz)
  have A12 := hide (A11.out.add q (TPol.st _ _ _ _) d)
  clear A11 caP0 caP1 q d
  obtain ⟨loz, hiz, dz⟩ := A12.out.get 0 rfl
  have Dz := hide (TPol.rd dz)
  clear dz
  go_wp2_with fail
  refine (C2.out _ _ _ Dz.out).mono ?_
  rintro e w13 ⟨ph, rh, rfl, d, q⟩
  obtain ⟨aph, cph, arh, crh, rfl, rfl⟩ := d.sls
  have lth := q.size
  (try simp only [World.size_alloc] at lth)
  have A13 := hide ((A12.out.add q (TPol.st _ _ _ _) d).box #[.slice aph X.length cph, .slice arh Y.length crh] 43)
  clear A12 Dz loz hiz q d
  obtain ⟨cbh0, cbh1⟩ := (A13.out.atBox 0 rfl).c2
  obtain ⟨cbW0, cbW1⟩ := (A13.out.atBox 7 rfl).c2
  obtain ⟨loh, hih, dh⟩ := A13.out.get 1 rfl
  have Dh := hide (TPol.rd dh)
  clear dh
  obtain ⟨loW, hiW, dW⟩ := A13.out.get 8 rfl
  have DW := hide (TPol.rd dW)
  clear dW
  go_wp2_with fail
  refine (eqPool_same _ _ _ _ X Y _ Dh.out DW.out).mono ?_
  rintro e w14 ⟨rfl, q⟩
  have A14 := hide (A13.out.step q)
  clear A13 cbh0 cbh1 cbW0 cbW1 Dh loh hih DW loW hiW q
  obtain ⟨cbg0, cbg1⟩ := (A14.out.atBox 3 rfl).c2
  obtain ⟨log, hig, dg⟩ := A14.out.get 4 rfl
  have Dg := hide (TPol.rd dg)
  clear dg
  go_wp2_with fail
  refine (heldPool_calls _ _ X Y _ Dg.out SX.out).mono ?_
  rintro e w15 ⟨rfl, q⟩
  have A15 := hide (A14.out.step q)
  clear A14 cbg0 cbg1 Dg log hig q
  rw [← MM.out]
  go_wp2
  go_ret
  exact ⟨rfl, A15.out.below⟩
end Go.Proofs.Ythmijjcddjlebaa

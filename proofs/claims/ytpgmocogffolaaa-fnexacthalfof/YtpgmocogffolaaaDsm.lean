/-
  Disks copied, marked, and whether the marks are held, call by call. Each contract says what it asks.
-/
import Derived.Test.YtpgmocogffolaaaDsk
namespace Go.Proofs.Ytpgmocogffolaaa
open Go.RowKit
set_option linter.unusedVariables false

theorem dskInfo : (Try.prog.info? 30).map (·.size) = some 3 := by kernel_rfl
/-- A function whose result is a disk that lies in a cell. -/
theorem res_dsk {fn : Func} {x : Tmp} (hf : fn.results = #[.cell x 30]) (tmps : Array Value) (w : World) (g : Nat) (p h b : Value) (fr : Nat × Nat) (hp : tmps.getD x undef = .pointer (some ⟨g, 0, none⟩))
    (hg : w.heap[g]? = some (.cells #[p, h, b] 30 fr)) : (results fn tmps).run Try.prog w = .ok (.agg #[p, h, b]) w :=
  results_cell_row hf tmps w g _ _ fr _ hp hg Try.underlying30 rfl dskInfo
theorem res_dsk2 {fn : Func} {x u : Tmp} (hf : fn.results = #[.cell x 30, .tmp u]) (tmps : Array Value) (w : World) (g : Nat) (p h b : Value) (fr : Nat × Nat) (hp : tmps.getD x undef = .pointer (some ⟨g, 0, none⟩))
    (hg : w.heap[g]? = some (.cells #[p, h, b] 30 fr)) : (results fn tmps).run Try.prog w = .ok (.tuple #[.agg #[p, h, b], tmps.getD u undef]) w := by
  have hp' : tmps[x]?.getD undef = .pointer (some ⟨g, 0, none⟩) := by simpa using hp
  simp [results, hf, hp', asAddr, run_loadVar_row w g _ _ _ fr _ hg Try.underlying30 rfl dskInfo]
theorem res_dsk3 {fn : Func} {x u v : Tmp} (hf : fn.results = #[.cell x 30, .tmp u, .tmp v]) (tmps : Array Value) (w : World) (g : Nat) (p h b : Value) (fr : Nat × Nat) (hp : tmps.getD x undef = .pointer (some ⟨g, 0, none⟩))
    (hg : w.heap[g]? = some (.cells #[p, h, b] 30 fr)) : (results fn tmps).run Try.prog w = .ok (.tuple #[.agg #[p, h, b], tmps.getD u undef, tmps.getD v undef]) w := by
  have hp' : tmps[x]?.getD undef = .pointer (some ⟨g, 0, none⟩) := by simpa using hp
  simp [results, hf, hp', asAddr, run_loadVar_row w g _ _ _ fr _ hg Try.underlying30 rfl dskInfo]

set_option maxRecDepth 100000 in
set_option maxHeartbeats 800000 in
theorem markDisk_calls (p h b : Value) (P H : List ByteArray) (B : List Bool) (k lo hi : Nat) (w : World) (d : DskV w lo hi p h b P H B) (hhi : hi ≤ w.heap.size) (hk0 : 0 < k) (hk : k ≤ 100000000) (hz : SzD P H B) :
    Calls Try.prog 21 #[.agg #[p, h, b], .int .i64 k] w fun e w' => e = .returned (.int .i64 ((k + P.length + H.length + B.length : Nat) : Int)) ∧
      DskV w' lo hi p h b (marksT k P.length) (marksT (k + P.length) H.length) (marksZ ((k + P.length + H.length : Nat) : Int) B.length) ∧ Chg lo hi w w' := by
  obtain ⟨zp, zh, zb⟩ := hz
  have D0 := hide (d.below (below_box w (.cells #[p, h, b] 30)))
  have C0 : Hid (Chg lo hi w (w.alloc (.cells #[p, h, b] 30))) := Chg.ofAlloc w _
  have X0 := hide (BoxAt.new w #[p, h, b] 30)
  clear d
  obtain ⟨n1, e1⟩ : ∃ n, n = k + P.length := ⟨_, rfl⟩
  obtain ⟨n2, e2⟩ : ∃ n, n = n1 + H.length := ⟨_, rfl⟩
  rw [← e1, ← e2]
  have b1 : n1 ≤ 101048576 := by omega
  have b2 : n2 ≤ 102097152 := by omega
  have p1 : 0 < n1 := by omega
  have p2 : 0 < n2 := by omega
  have E1 := hide e1
  have E2 := hide e2
  clear e1 e2
  go_enter Try.func21, Try.ntmps21
  go_wp2_with fail
  refine (markStringS_calls _ P k lo _ D0.out.plate hk0 (by omega) zp).mono ?_
  rintro e w1 ⟨rfl, o1, g1⟩
  have C1 := hide (C0.out.trans (D0.out.chgP g1))
  have X1 := hide (X0.out.chg (D0.out.chgP g1) (.inr hhi))
  have D1 := hide (D0.out.setP o1 (marksT_small _ _ (by omega)) g1)
  clear o1 g1 C0 X0 D0
  rw [← E1.out]
  obtain ⟨c0, c1, c2⟩ := X1.out.c3
  clear c0 c2
  go_wp2_with fail
  refine (markStringS_calls _ H n1 lo _ D1.out.held p1 (by omega) zh).mono ?_
  rintro e w2 ⟨rfl, o1, g1⟩
  clear c1
  have C2 := hide (C1.out.trans (D1.out.chgH g1))
  have X2 := hide (X1.out.chg (D1.out.chgH g1) (.inr hhi))
  have D2 := hide (D1.out.setH o1 (marksT_small _ _ (by omega)) g1)
  clear o1 g1 C1 X1 D1
  rw [← E2.out]
  obtain ⟨c0, c1, c2⟩ := X2.out.c3
  clear c0 c1
  go_wp2_with fail
  refine (markBoolS_calls _ B n2 lo _ D2.out.bad (by omega) (by omega) zb).mono ?_
  rintro e w3 ⟨rfl, o1, g1⟩
  clear c2
  have C3 := hide (C2.out.trans (D2.out.chgB g1))
  have D3 := hide (D2.out.setB o1 g1)
  clear o1 g1 C2 X2 D2
  go_wp2
  go_ret
  exact ⟨rfl, D3.out, C3.out⟩

set_option maxRecDepth 100000 in
set_option maxHeartbeats 800000 in
theorem heldDisk_calls (p h b : Value) (np nh nb k : Nat) (w : World) (hp : RdT w p (marksT k np)) (hh : RdT w h (marksT (k + np) nh)) (hb : RdZ w b (marksZ ((k + np + nh : Nat) : Int) nb)) (hk0 : 0 < k) (hk : k ≤ 100000000) (zp : np ≤ 1048576) (zh : nh ≤ 1048576) (zb : nb ≤ 1048576) :
    Calls Try.prog 91 #[.agg #[p, h, b], .int .i64 k] w fun e w' => e = .returned (.int .i64 ((k + np + nh + nb : Nat) : Int)) ∧ Below w.heap.size w w' := by
  have b0 := below_box w (.cells #[p, h, b] 30)
  have RP := hide (hp.below b0)
  have RH := hide (hh.below b0)
  have RB := hide (hb.below b0)
  have X0 := hide (BoxAt.new w #[p, h, b] 30)
  have B0 := hide b0
  clear b0 hp hh hb
  obtain ⟨n1, e1⟩ : ∃ n, n = k + np := ⟨_, rfl⟩
  obtain ⟨n2, e2⟩ : ∃ n, n = n1 + nh := ⟨_, rfl⟩
  rw [← e1] at RH RB ⊢
  rw [← e2] at RB ⊢
  have b1 : n1 ≤ 101048576 := by omega
  have b2 : n2 ≤ 102097152 := by omega
  have p1 : 0 < n1 := by omega
  have p2 : 0 < n2 := by omega
  have q1 : ¬ (n1 : Int) < 0 := by omega
  have q2 : ¬ (n2 : Int) < 0 := by omega
  have q3 : ¬ (n2 : Int) + (nb : Int) < 0 := by omega
  have E1 := hide e1
  have E2 := hide e2
  clear e1 e2
  go_enter Try.func91, Try.ntmps91
  go_wp2_with fail
  refine (heldStringS_calls _ np k _ RP.out hk0 (by omega) zp).mono ?_
  rintro e w1 ⟨rfl, b1⟩
  rw [← E1.out]
  have D1 := hide b1
  have X1 := hide (X0.out.below b1)
  clear b1 X0
  obtain ⟨c0, c1, c2⟩ := X1.out.c3
  clear c0 c2
  go_wp2_with fail
  refine (heldStringS_calls _ nh n1 _ (RH.out.below D1.out) p1 (by omega) zh).mono ?_
  rintro e w2 ⟨rfl, b2⟩
  rw [← E2.out]
  clear c1
  have D2 := hide (D1.out.trans (b2.mono D1.out.size))
  have X2 := hide (X1.out.below b2)
  clear b2 X1 D1
  obtain ⟨c0, c1, c2⟩ := X2.out.c3
  clear c0 c1
  go_wp2_with fail
  refine (heldBoolS_calls _ nb n2 _ (RB.out.below D2.out) (by omega) (by omega) zb).mono ?_
  rintro e w3 ⟨rfl, rfl⟩
  clear c2
  go_wp2
  go_ret
  exact ⟨rfl, B0.out.trans (D2.out.mono B0.out.size)⟩
end Go.Proofs.Ytpgmocogffolaaa

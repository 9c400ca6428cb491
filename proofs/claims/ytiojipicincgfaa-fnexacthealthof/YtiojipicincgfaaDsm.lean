/-
  Disks copied, marked, and whether the marks are held, call by call. Each contract says what it asks.
-/
import Derived.Test.YtiojipicincgfaaDsk
namespace Go.Proofs.Ytiojipicincgfaa
open Go.RowKit
set_option linter.unusedVariables false

theorem dskInfo : (Try.prog.info? 32).map (·.size) = some 3 := by kernel_rfl
/-- A function whose result is a disk that lies in a cell. -/
theorem res_dsk {fn : Func} {x : Tmp} (hf : fn.results = #[.cell x 32]) (tmps : Array Value) (w : World) (g : Nat) (p h b : Value) (fr : Nat × Nat) (hp : tmps.getD x undef = .pointer (some ⟨g, 0, none⟩))
    (hg : w.heap[g]? = some (.cells #[p, h, b] 32 fr)) : (results fn tmps).run Try.prog w = .ok (.agg #[p, h, b]) w :=
  results_cell_row hf tmps w g _ _ fr _ hp hg Try.underlying32 rfl dskInfo
theorem res_dsk2 {fn : Func} {x u : Tmp} (hf : fn.results = #[.cell x 32, .tmp u]) (tmps : Array Value) (w : World) (g : Nat) (p h b : Value) (fr : Nat × Nat) (hp : tmps.getD x undef = .pointer (some ⟨g, 0, none⟩))
    (hg : w.heap[g]? = some (.cells #[p, h, b] 32 fr)) : (results fn tmps).run Try.prog w = .ok (.tuple #[.agg #[p, h, b], tmps.getD u undef]) w := by
  have hp' : tmps[x]?.getD undef = .pointer (some ⟨g, 0, none⟩) := by simpa using hp
  simp [results, hf, hp', asAddr, run_loadVar_row w g _ _ _ fr _ hg Try.underlying32 rfl dskInfo]
theorem res_dsk3 {fn : Func} {x u v : Tmp} (hf : fn.results = #[.cell x 32, .tmp u, .tmp v]) (tmps : Array Value) (w : World) (g : Nat) (p h b : Value) (fr : Nat × Nat) (hp : tmps.getD x undef = .pointer (some ⟨g, 0, none⟩))
    (hg : w.heap[g]? = some (.cells #[p, h, b] 32 fr)) : (results fn tmps).run Try.prog w = .ok (.tuple #[.agg #[p, h, b], tmps.getD u undef, tmps.getD v undef]) w := by
  have hp' : tmps[x]?.getD undef = .pointer (some ⟨g, 0, none⟩) := by simpa using hp
  simp [results, hf, hp', asAddr, run_loadVar_row w g _ _ _ fr _ hg Try.underlying32 rfl dskInfo]

set_option maxRecDepth 100000 in
set_option maxHeartbeats 800000 in
theorem markDisk_calls (p h b : Value) (P H : List ByteArray) (B : List Bool) (k lo hi : Nat) (w : World) (d : DskV w lo hi p h b P H B) (hhi : hi ≤ w.heap.size) (hk0 : 0 < k) (hk : k ≤ 100000000) (hz : SzD P H B) :
    Calls Try.prog 11 #[.agg #[p, h, b], .int .i64 k] w fun e w' => e = .returned (.int .i64 ((k + P.length + H.length + B.length : Nat) : Int)) ∧
      DskV w' lo hi p h b (marksT k P.length) (marksT (k + P.length) H.length) (marksZ ((k + P.length + H.length : Nat) : Int) B.length) ∧ Chg lo hi w w' := by
  obtain ⟨zp, zh, zb⟩ := hz
  have D0 := hide (d.below (below_box w (.cells #[p, h, b] 32)))
  have C0 : Hid (Chg lo hi w (w.alloc (.cells #[p, h, b] 32))) := Chg.ofAlloc w _
  have X0 := hide (BoxAt.new w #[p, h, b] 32)
  clear d
  obtain ⟨n1, e1⟩ : ∃ n, n = k + P.length := ⟨_, rfl⟩
  obtain ⟨n2, e2⟩ : ∃ n, n = n1 + H.length := ⟨_, rfl⟩
  rw [← e1, ← e2]
  have b1 : n1 ≤ 101048576 := by omega
  have b2 : n2 ≤ 102097152 := by omega
  have p1 : 0 < n1 := by omega
  have p2 : 0 < n2 := by omega
  have E1 := hide e1
  have E2 := hide e2
  clear e1 e2
  go_enter Try.func11, Try.ntmps11
  go_wp2_with fail
  refine (markStringS_calls _ P k lo _ D0.out.plate hk0 (by omega) zp).mono ?_
  rintro e w1 ⟨rfl, o1, g1⟩
  have C1 := hide (C0.out.trans (D0.out.chgP g1))
  have X1 := hide (X0.out.chg (D0.out.chgP g1) (.inr hhi))
  have D1 := hide (D0.out.setP o1 (marksT_small _ _ (by omega)) g1)
  clear o1 g1 C0 X0 D0
  rw [← E1.out]
  obtain ⟨c0, c1, c2⟩ := X1.out.c3
  clear c0 c2
  go_wp2_with fail
  refine (markStringS_calls _ H n1 lo _ D1.out.held p1 (by omega) zh).mono ?_
  rintro e w2 ⟨rfl, o1, g1⟩
  clear c1
  have C2 := hide (C1.out.trans (D1.out.chgH g1))
  have X2 := hide (X1.out.chg (D1.out.chgH g1) (.inr hhi))
  have D2 := hide (D1.out.setH o1 (marksT_small _ _ (by omega)) g1)
  clear o1 g1 C1 X1 D1
  rw [← E2.out]
  obtain ⟨c0, c1, c2⟩ := X2.out.c3
  clear c0 c1
  go_wp2_with fail
  refine (markBoolS_calls _ B n2 lo _ D2.out.bad (by omega) (by omega) zb).mono ?_
  rintro e w3 ⟨rfl, o1, g1⟩
  clear c2
  have C3 := hide (C2.out.trans (D2.out.chgB g1))
  have D3 := hide (D2.out.setB o1 g1)
  clear o1 g1 C2 X2 D2
  go_wp2
  go_ret
  exact ⟨rfl, D3.out, C3.out⟩

end Go.Proofs.Ytiojipicincgfaa

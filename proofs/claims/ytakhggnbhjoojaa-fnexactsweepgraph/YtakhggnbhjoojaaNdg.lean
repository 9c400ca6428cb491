/-
  Graphs that are answered beside a list: what a law holds of them. The contract of marking says what it asks.
-/
import Derived.Test.YtakhggnbhjoojaaNdf
namespace Go.Proofs.Ytakhggnbhjoojaa
open Go.RowKit
set_option linter.unusedVariables false

theorem TNds.rd {lo hi : Nat} {w : World} {v : Value} {xs : List Nd} (h : TNds v xs lo hi w) : RdN w v xs := by
  obtain ⟨us, h⟩ := h
  exact h.rd
theorem TGrf.sls {lo hi : Nat} {w : World} {p r c : Value} {xs : List Nd} {rs cs : List Int} (h : TGrf p r c xs rs cs lo hi w) : ∃ ap cp ar cr ac cc, p = .slice ap xs.length cp ∧ r = .slice ar rs.length cr ∧ c = .slice ac cs.length cc := by
  obtain ⟨us, h⟩ := h
  obtain ⟨ap, cp, e1⟩ := h.slice
  obtain ⟨ar, cr, e2⟩ := row_slice (h.rowE 0 (by simp))
  obtain ⟨ac, cc, e3⟩ := row_slice (h.rowE 1 (by simp))
  exact ⟨ap, cp, ar, cr, ac, cc, e1, e2, e3⟩
/-- A graph and a list of the call's own. -/
def TGrY (p r c y : Value) (xs : List Nd) (rs cs ys : List Int) : Tg := fun lo hi w => ∃ us, NdV w lo hi p [r, c, y] us [rs, cs, ys] xs
theorem TGrY.st (p r c y : Value) (xs : List Nd) (rs cs ys : List Int) : (TGrY p r c y xs rs cs ys).st := fun lo hi a b w w' ⟨us, h⟩ hc hd => ⟨us, h.chg hc hd⟩
theorem TGrY.rd {lo hi : Nat} {w : World} {p r c y : Value} {xs : List Nd} {rs cs ys : List Int} (h : TGrY p r c y xs rs cs ys lo hi w) : RdG w p r c xs rs cs := by
  obtain ⟨us, h⟩ := h
  exact ⟨h.rd, (h.rowE 0 (by simp)).rd, (h.rowE 1 (by simp)).rd⟩
theorem TGrY.rdY {lo hi : Nat} {w : World} {p r c y : Value} {xs : List Nd} {rs cs ys : List Int} (h : TGrY p r c y xs rs cs ys lo hi w) : Rd w y ys := by
  obtain ⟨us, h⟩ := h
  exact (h.rowE 2 (by simp)).rd
theorem TGrY.sl {lo hi : Nat} {w : World} {p r c y : Value} {xs : List Nd} {rs cs ys : List Int} (h : TGrY p r c y xs rs cs ys lo hi w) : ∃ ap cp ar cr ac cc ay cy, p = .slice ap xs.length cp ∧ r = .slice ar rs.length cr ∧ c = .slice ac cs.length cc ∧ y = .slice ay ys.length cy := by
  obtain ⟨us, h⟩ := h
  obtain ⟨ap, cp, e1⟩ := h.slice
  obtain ⟨ar, cr, e2⟩ := row_slice (h.rowE 0 (by simp))
  obtain ⟨ac, cc, e3⟩ := row_slice (h.rowE 1 (by simp))
  obtain ⟨ay, cy, e4⟩ := row_slice (h.rowE 2 (by simp))
  exact ⟨ap, cp, ar, cr, ac, cc, ay, cy, e1, e2, e3, e4⟩

set_option maxRecDepth 100000 in
set_option maxHeartbeats 1600000 in
theorem markGraphE_calls (p r c : Value) (es : List Value) (qs : List (List Int)) (xs : List Nd) (rs cs : List Int) (us : List Value) (lo hi : Nat) (w : World) (h : NdV w lo hi p (r :: c :: es) us (rs :: cs :: qs) xs) (hh : hi ≤ w.heap.size) (hz : SzG xs rs cs) :
    Calls Try.prog 24 #[.agg #[p, r, c], .int .i64 1] w fun e w' => e = .returned (.int .i64 (enG xs rs cs : Nat)) ∧ NdV w' lo hi p (r :: c :: es) us (mkR xs rs :: mkC xs rs cs :: qs) (mkN 1 xs) ∧ Chg lo hi w w' := by
  have b0 := below_box w (.cells #[p, r, c] 27)
  have H0 := hide (h.below b0)
  have C0 : Hid (Chg lo hi w (w.alloc (.cells #[p, r, c] 27))) := Chg.ofAlloc w _
  have X0 : Hid (BoxAt _ _ _ _) := hide (BoxAt.new w #[p, r, c] 27)
  have Z := hide hz
  have hz1 := hz.1
  have hz2 := hz.2.1
  have hz3 := hz.2.2
  have eb : enN 1 xs ≤ 1048577 := by unfold enN; omega
  obtain ⟨ap, cp, rfl⟩ := h.slice
  obtain ⟨ar, cr, hr⟩ := row_slice (h.rowE 0 (by simp))
  obtain ⟨ac, cc, hc⟩ := row_slice (h.rowE 1 (by simp))
  simp only [List.getD_cons_zero, List.getD_cons_succ] at hr hc
  subst hr hc
  clear b0 h hz
  go_enter Try.func24, Try.ntmps24
  go_wp2_with fail
  refine (markNodeS_calls _ 1 xs _ us _ lo hi _ H0.out Z.out.1 (by decide)).mono ?_
  rintro e w1 ⟨rfl, h1, c1⟩
  have X1 := hide (X0.out.chg c1 (.inr hh))
  have H1 := hide h1
  have C1 := hide (C0.out.trans c1)
  obtain ⟨x0, x1, x2⟩ := X1.out.c3
  clear h1 c1 H0 C0 X0
  generalize hk : enN 1 xs = k at *
  go_wp2_with fail
  refine (markIntS_calls _ rs _ lo _ (H1.out.rowE 0 (by simp)) (by omega) (by omega) (by omega)).mono ?_
  rintro e w2 ⟨rfl, o2, g2⟩
  have H2 := hide (H1.out.writeE 0 (by simp) o2 g2)
  have c2 := H1.out.writeEChg 0 (by simp) g2
  have X2 := hide (X1.out.chg c2 (.inr hh))
  have C2 := hide (C1.out.trans c2)
  clear x0 x1 x2
  obtain ⟨x0, x1, x2⟩ := X2.out.c3
  clear o2 g2 c2 H1 C1 X1
  go_wp2_with fail
  refine (markIntS_calls _ cs _ lo _ (H2.out.rowE 1 (by simp)) (by omega) (by omega) (by omega)).mono ?_
  rintro e w3 ⟨rfl, o3, g3⟩
  have H3 := hide (H2.out.writeE 1 (by simp) o3 g3)
  have C3 := hide (C2.out.trans (H2.out.writeEChg 1 (by simp) g3))
  clear o3 g3 H2 C2
  go_wp2
  go_ret
  refine ⟨by unfold enG; rw [hk]; simp, ?_, C3.out⟩
  have := H3.out
  simpa [mkR, mkC, hk] using this
end Go.Proofs.Ytakhggnbhjoojaa

/-
  A recipe copied by the laws, call by call. Each says what it asks.
-/
import Derived.Test.YtaamkkfjafedgaaRb5
namespace Go.Proofs.Ytaamkkfjafedgaa
open Go.RowKit
set_option linter.unusedVariables false

/-- From B on nothing that was there is written. -/
def From9 (B : Nat) (w w' : World) : Prop := w.heap.size ≤ w'.heap.size ∧ ∀ k, B ≤ k → k < w.heap.size → w'.heap[k]? = w.heap[k]?
theorem From9.trans {B : Nat} {a b c : World} (h : From9 B a b) (k : From9 B b c) : From9 B a c := ⟨Nat.le_trans h.1 k.1, fun i hi hl => (k.2 i hi (Nat.lt_of_lt_of_le hl h.1)).trans (h.2 i hi hl)⟩
theorem From9.below {B : Nat} {a b : World} (h : Below a.heap.size a b) : From9 B a b := ⟨h.size, fun k _ hl => h.block k hl⟩
theorem From9.setCell {B : Nat} (w : World) (g i : Nat) (v : Value) (hg : g < B) : From9 B w (w.setCell ⟨g, i, none⟩ v) := ⟨by simp [World.setCell], fun k hk _ => Below.heap_setCell w _ v k (by show k ≠ g; omega)⟩
theorem ownsRow_from {B base n size : Nat} {e : TypeId} {v : Value} {xs : List Value} {w w' : World} (h : w.ownsRow base e size v n xs) (hf : From9 B w w') (hb : B ≤ base) : w'.ownsRow base e size v n xs := by
  refine ⟨h.1, ?_⟩
  rcases h.2 with hn | ⟨g, cap, cur, rfl, hb', hg, rest⟩
  · exact .inl hn
  · exact .inr ⟨g, cap, cur, rfl, hb', (hf.2 g (by omega) (Array.getElem?_eq_some_iff.1 hg).1).trans hg, rest⟩
theorem mat_from {B lo hi : Nat} {v : Value} {m : List (List Int)} {w w' : World} (h : Mat w lo hi v m) (hf : From9 B w w') (hb : B ≤ lo) : Mat w' lo hi v m := by
  obtain ⟨vs, hv⟩ := h
  exact ⟨vs, hv.len, ownsRow_from hv.head hf hb, fun i hi => ownsRow_from (hv.row i hi) hf hb, hv.top, hv.tops, hv.apart⟩
theorem boxed2_set0 {W : World} {B : Nat} {t : TypeId} {v u : Value} (h : Boxed2 W B t v u) (x : Value) : Boxed2 (W.setCell ⟨B, 0, none⟩ x) B t x u := by
  obtain ⟨hlt, hk⟩ := Array.getElem?_eq_some_iff.1 h
  show (W.heap.modify B _)[B]? = _
  rw [Array.getElem?_eq_getElem (by rw [Array.size_modify]; exact hlt), Array.getElem_modify_self, hk]
  rfl
theorem boxed2_set1 {W : World} {B : Nat} {t : TypeId} {v u : Value} (h : Boxed2 W B t v u) (x : Value) : Boxed2 (W.setCell ⟨B, 1, none⟩ x) B t v x := by
  obtain ⟨hlt, hk⟩ := Array.getElem?_eq_some_iff.1 h
  show (W.heap.modify B _)[B]? = _
  rw [Array.getElem?_eq_getElem (by rw [Array.size_modify]; exact hlt), Array.getElem_modify_self, hk]
  rfl
theorem boxed2_far {W : World} {B g i : Nat} {t : TypeId} {v u x : Value} (h : Boxed2 W B t v u) (hne : B ≠ g) : Boxed2 (W.setCell ⟨g, i, none⟩ x) B t v u := (Below.heap_setCell W ⟨g, i, none⟩ x B hne).trans h
theorem boxed2_below {W W' : World} {B : Nat} {t : TypeId} {v u : Value} (h : Boxed2 W B t v u) (hb : Below W.heap.size W W') : Boxed2 W' B t v u := (hb.block B (Array.getElem?_eq_some_iff.1 h).1).trans h
theorem Boxed2.f0 {W : World} {B : Nat} {t : TypeId} {v u : Value} (h : Boxed2 W B t v u) (i : Nat) : W.frozen? ⟨B, i, none⟩ = false := frozen_of_row W B i _ _ h
theorem rcpInfo : (Try.prog.info? 44).map (·.size) = some 2 := by kernel_rfl
theorem res_rcp {fn : Func} {x : Tmp} (hf : fn.results = #[.cell x 44]) (tmps : Array Value) (w : World) (g : Nat) (p h : Value) (fr : Nat × Nat) (hp : tmps.getD x undef = .pointer (some ⟨g, 0, none⟩))
    (hg : w.heap[g]? = some (.cells #[p, h] 44 fr)) : (results fn tmps).run Try.prog w = .ok (.agg #[p, h]) w :=
  results_cell_row hf tmps w g _ _ fr _ hp hg Try.underlying44 rfl rcpInfo

set_option maxRecDepth 100000 in
set_option maxHeartbeats 800000 in
theorem toRecipe_calls (vc vu : Value) (C : List ByteArray) (U : List (List Int)) (w : World) (hc : RdT w vc C) (hu : RdM w vu U) (h1 : C.length ≤ 1048576) (h2 : U.length + tot U ≤ 1048576) :
    Calls Try.prog 51 #[.agg #[vc, vu]] w fun e w' => ∃ vc' vu', e = .returned (.agg #[vc', vu']) ∧ RdT w' vc' C ∧ RdM w' vu' U ∧ Below w.heap.size w w' := by
  have RC := hide hc
  have RU := hide hu
  obtain ⟨ac, cc, rfl, _, _, hsm, _⟩ := hc
  obtain ⟨au, cu, rfl, _⟩ := hu
  have SM := hide hsm
  obtain ⟨wa, ea⟩ : ∃ wa, wa = w.alloc (.cells #[.slice ac C.length cc, .slice au U.length cu] 60) := ⟨_, rfl⟩
  obtain ⟨wb, eb⟩ : ∃ wb, wb = wa.alloc (.cells #[.slice none 0 0, .slice none 0 0] 44) := ⟨_, rfl⟩
  obtain ⟨wc, ec⟩ : ∃ wc, wc = wb.alloc (.cells #[.slice none 0 0, .slice none 0 0] 44) := ⟨_, rfl⟩
  have sa : wa.heap.size = w.heap.size + 1 := by rw [ea]; simp
  have sb : wb.heap.size = w.heap.size + 1 + 1 := by rw [eb, World.size_alloc, sa]
  have sc : wc.heap.size = w.heap.size + 1 + 1 + 1 := by rw [ec, World.size_alloc, sb]
  have bz : Below w.heap.size w wc := by rw [ec, eb, ea]; exact (((Below.refl _ w).alloc (Nat.le_refl _) _).alloc (by simp) _).alloc (by simp; omega) _
  have xa : Boxed2 wc w.heap.size 60 (.slice ac C.length cc) (.slice au U.length cu) := by rw [ec, eb, ea]; exact boxed2_alloc (boxed2_alloc (boxed2_new _ _ _ _) _) _
  have xb : Boxed2 wc (w.heap.size + 1) 44 (.slice none 0 0) (.slice none 0 0) := by rw [ec, eb, ← sa]; exact boxed2_alloc (boxed2_new _ _ _ _) _
  have xc : Boxed2 wc (w.heap.size + 1 + 1) 44 (.slice none 0 0) (.slice none 0 0) := by rw [ec, ← sb]; exact boxed2_new _ _ _ _
  have EC : Hid (((w.alloc (.cells #[.slice ac C.length cc, .slice au U.length cu] 60)).alloc (.cells #[.slice none 0 0, .slice none 0 0] 44)).alloc (.cells #[.slice none 0 0, .slice none 0 0] 44) = wc) := by show _ = _; rw [ec, eb, ea]
  have XA := hide xa
  have XB := hide xb
  have XC := hide xc
  have BZ := hide bz
  have SC := hide sc
  clear hsm xa xb xc bz sa sb sc ea eb ec
  go_enter Try.func51, Try.ntmps51
  go_wp2_with fail
  rw [EC.out]
  refine (toStringS_calls _ C _ (RC.out.below BZ.out) h1).mono ?_
  rintro e w1 ⟨v1, rfl, o1, b1⟩
  obtain ⟨a1, k1, rfl⟩ := own_slice6 o1
  have XA1 := hide (boxed2_below XA.out b1)
  have XB1 := hide (boxed2_below XB.out b1)
  have XC1 := hide (boxed2_below XC.out b1)
  have O1 := hide o1
  have D1 := hide ((BZ.out.trans (b1.mono BZ.out.size)).setCell (p := ⟨w.heap.size + 1 + 1, 0, none⟩) (by show w.heap.size ≤ w.heap.size + 1 + 1; omega) (.slice a1 C.length k1))
  have hs1 := b1.size
  have f0 := XC1.out.f0 0
  have c0 := XC1.out.c0
  have c1 := XA1.out.c1
  clear o1 b1
  go_wp2_with fail
  clear f0 c0 c1
  have XA2 := hide (boxed2_far (g := w.heap.size + 1 + 1) (i := 0) (x := .slice a1 C.length k1) XA1.out (by omega))
  have XB2 := hide (boxed2_far (g := w.heap.size + 1 + 1) (i := 0) (x := .slice a1 C.length k1) XB1.out (by omega))
  have XC2 := hide (boxed2_set0 XC1.out (.slice a1 C.length k1))
  have K2 := hide (From9.setCell (B := wc.heap.size) w1 (w.heap.size + 1 + 1) 0 (.slice a1 C.length k1) (by have := SC.out; omega))
  have O2 := hide (ownsRow_from O1.out K2.out (Nat.le_refl _))
  have s2 : (w1.setCell ⟨w.heap.size + 1 + 1, 0, none⟩ (.slice a1 C.length k1)).heap.size = w1.heap.size := by simp [World.setCell]
  clear K2 XA1 XB1 XC1 O1
  generalize w1.setCell ⟨w.heap.size + 1 + 1, 0, none⟩ (.slice a1 C.length k1) = w2 at D1 XA2 XB2 XC2 O2 s2 ⊢
  refine (toIntSS_calls _ U _ (RU.out.below D1.out) h2).mono ?_
  rintro e w3 ⟨v3, rfl, m3, b3⟩
  obtain ⟨a3, k3, hv3, _⟩ := m3.rd
  subst hv3
  have XB3 := hide (boxed2_below XB2.out b3)
  have XC3 := hide (boxed2_below XC2.out b3)
  have O3 := hide (ownsRow_from (B := wc.heap.size) O2.out (From9.below b3) (Nat.le_refl _))
  have M3 := hide m3
  have D3 := hide (D1.out.trans (b3.mono D1.out.size))
  have hs3 := b3.size
  have f1 := XC3.out.f0 1
  have c0 := XC3.out.c0
  have c1 := XC3.out.c1
  have g0 := XB3.out.f0 0
  have g1 := XB3.out.f0 1
  have d0 := XB3.out.c0
  have d1 := XB3.out.c1
  have y3 : ¬ w.heap.size + 1 + 1 = w.heap.size + 1 := by omega
  have y4 : ¬ w.heap.size + 1 = w.heap.size + 1 + 1 := by omega
  clear m3 b3 XA2 XB2 XC2 O2 D1
  go_wp2
  have K := ((From9.setCell (B := wc.heap.size) w3 (w.heap.size + 1 + 1) 1 (.slice a3 U.length k3) (by have := SC.out; omega)).trans (From9.setCell _ (w.heap.size + 1) 0 (.slice a1 C.length k1) (by have := SC.out; omega))).trans (From9.setCell _ (w.heap.size + 1) 1 (.slice a3 U.length k3) (by have := SC.out; omega))
  have X := boxed2_set1 (boxed2_set0 (boxed2_far (g := w.heap.size + 1 + 1) (i := 1) (x := .slice a3 U.length k3) XB3.out (by omega)) (.slice a1 C.length k1)) (.slice a3 U.length k3)
  refine bodyPost_ret (res_rcp rfl _ _ (w.heap.size + 1) _ _ (0, 0) rfl X) rfl ⟨_, _, rfl, ?_, ?_, ?_⟩
  · exact OwnT.rd (ownsRow_from O3.out K (Nat.le_refl _)) SM.out
  · exact (mat_from M3.out K (by omega)).rd
  · exact ((D3.out.setCell (p := ⟨w.heap.size + 1 + 1, 1, none⟩) (by show w.heap.size ≤ w.heap.size + 1 + 1; omega) _).setCell (p := ⟨w.heap.size + 1, 0, none⟩) (by show w.heap.size ≤ w.heap.size + 1; omega) _).setCell (p := ⟨w.heap.size + 1, 1, none⟩) (by show w.heap.size ≤ w.heap.size + 1; omega) _
end Go.Proofs.Ytaamkkfjafedgaa

/-
  The law that holds the program's RebuildText against its model's: at every recipe and number the call returns true, and nothing that was there is written. No condition.
-/
import Derived.Test.YtaamkkfjafedgaaRb6
namespace Go.Proofs.Ytaamkkfjafedgaa
open Go.RowKit
set_option linter.unusedVariables false

set_option maxRecDepth 100000 in
set_option maxHeartbeats 1600000 in
theorem fnExactRebuildText_walk (vc vu : Value) (C : List ByteArray) (U : List (List Int)) (k : Int) (w : World) (hc : RdT w vc C) (hu : RdM w vu U) (hk : (Lit.int .i64 k).wf = true) :
    Calls Try.prog 11 #[.agg #[vc, vu], .int .i64 k] w fun e w' => e = .returned (.bool true) ∧ Below w.heap.size w w' := by
  have RC := hide hc
  have RU := hide hu
  obtain ⟨ac, cc, rfl, _⟩ := hc
  obtain ⟨au, cu, rfl, _⟩ := hu
  have X0 : Hid (Boxed2 (w.alloc (.cells #[.slice ac C.length cc, .slice au U.length cu] 60)) w.heap.size 60 (.slice ac C.length cc) (.slice au U.length cu)) := boxed2_new w _ _ _
  have S0 : Hid (Below w.heap.size w (w.alloc (.cells #[.slice ac C.length cc, .slice au U.length cu] 60))) := (Below.refl _ w).alloc (Nat.le_refl _) _
  go_enter Try.func11, Try.ntmps11
  go_wp2_with fail
  refine (szRecipe_calls _ _ C U _ (RC.out.below S0.out) (RU.out.below S0.out)).mono ?_
  rintro e w1 ⟨⟨r, rfl, hr⟩, q⟩
  have S1 := hide (S0.out.trans (q.mono S0.out.size))
  have X1 := hide (boxed2_below X0.out q)
  clear S0 X0 q
  rcases hr with hr | ⟨hr0, hr1, hr2⟩
  · go_wp2
    go_ret
    exact ⟨rfl, S1.out⟩
  have hr0' : ¬ r < 0 := by omega
  have c0 := X1.out.c0
  have c1 := X1.out.c1
  have HK2 := hide hr2
  clear hr2
  go_wp2_with fail
  refine (toRecipe_calls _ _ C U _ (RC.out.below S1.out) (RU.out.below S1.out) hr1 HK2.out).mono ?_
  rintro e w2 ⟨v2, u2, rfl, rc2, ru2, q⟩
  have S2 := hide (S1.out.trans (q.mono S1.out.size))
  have X2 := hide (boxed2_below X1.out q)
  have RC2 := hide rc2
  have RU2 := hide ru2
  obtain ⟨a2, c2, rfl, _⟩ := rc2
  obtain ⟨b2, d2, rfl, _⟩ := ru2
  clear S1 X1 q c0 c1
  go_wp2_with fail
  refine (sRebuildText_calls _ _ C U k _ RC2.out RU2.out hr1).mono ?_
  rintro e w3 ⟨rfl, q⟩
  have S3 := hide (S2.out.trans (q.mono S2.out.size))
  have X3 := hide (boxed2_below X2.out q)
  clear S2 X2 q RC2 RU2
  have c0 := X3.out.c0
  have c1 := X3.out.c1
  go_wp2_with fail
  refine (toRecipe_calls _ _ C U _ (RC.out.below S3.out) (RU.out.below S3.out) hr1 HK2.out).mono ?_
  rintro e w4 ⟨v4, u4, rfl, rc4, ru4, q⟩
  have S4 := hide (S3.out.trans (q.mono S3.out.size))
  have X4 := hide (boxed2_below X3.out q)
  have RC4 := hide rc4
  have RU4 := hide ru4
  obtain ⟨a4, c4, rfl, _⟩ := rc4
  obtain ⟨b4, d4, rfl, _⟩ := ru4
  clear S3 X3 q c0 c1
  have Bz : Below w4.heap.size w4 (w4.alloc (.cells #[.slice a4 C.length c4, .slice b4 U.length d4] 44)) := (Below.refl _ w4).alloc (Nat.le_refl _) _
  have Y4 := hide (boxed2_new w4 44 (.slice a4 C.length c4) (.slice b4 U.length d4))
  have X5 := hide (boxed2_below X4.out Bz)
  have RC5 := hide (RC4.out.below Bz)
  have RU5 := hide (RU4.out.below Bz)
  have S5 := hide (S4.out.trans (Bz.mono S4.out.size))
  clear Bz X4 RC4 RU4 S4
  go_wp2_with fail
  refine (rebuildText_calls _ _ C U k _ RC5.out RU5.out hr1).mono ?_
  rintro e w6 ⟨rfl, q⟩
  have S6 := hide (S5.out.trans (q.mono S5.out.size))
  have X6 := hide (boxed2_below X5.out q)
  have Y6 := hide (boxed2_below Y4.out q)
  have RC6 := hide (RC5.out.below q)
  have RU6 := hide (RU5.out.below q)
  clear S5 X5 Y4 RC5 RU5 q
  generalize (rebR C U k).1 = r1
  generalize (rebR C U k).2 = r2
  go_wp2
  have F : Hid (∀ w', Below w6.heap.size w6 w' → (w'.cell? ⟨w.heap.size, 0, none⟩ = some (.slice ac C.length cc) ∧ w'.cell? ⟨w.heap.size, 1, none⟩ = some (.slice au U.length cu)) ∧ (w'.cell? ⟨w4.heap.size, 0, none⟩ = some (.slice a4 C.length c4) ∧ w'.cell? ⟨w4.heap.size, 1, none⟩ = some (.slice b4 U.length d4))) :=
    fun w' hb => ⟨⟨(boxed2_below X6.out hb).c0, (boxed2_below X6.out hb).c1⟩, (boxed2_below Y6.out hb).c0, (boxed2_below Y6.out hb).c1⟩
  go_region_held3 (fun w' => (w'.cell? ⟨w.heap.size, 0, none⟩ = some (.slice ac C.length cc) ∧ w'.cell? ⟨w.heap.size, 1, none⟩ = some (.slice au U.length cu)) ∧ (w'.cell? ⟨w4.heap.size, 0, none⟩ = some (.slice a4 C.length c4) ∧ w'.cell? ⟨w4.heap.size, 1, none⟩ = some (.slice b4 U.length d4))) (first | exact F.out _ (Below.refl _ _).drew | exact F.out _ B2.out | exact F.out _ B1.out)
    ((first | (go_at_call 47; refine (eqRecipe_same _ _ _ _ C U _ (RC6.out.below B1.out) (RU6.out.below B1.out) RC7.out RU7.out).mono ?_; rintro e' wr7 ⟨rfl, b7⟩; have B2 := hide (B1.out.trans (b7.mono B1.out.size)); clear b7) | (go_at_call 51; refine (toRecipe_calls _ _ C U _ (RC.out.below S6.out.drew) (RU.out.below S6.out.drew) hr1 HK2.out).mono ?_; rintro e' wr6 ⟨v7, u7, rfl, rc7, ru7, b6⟩; have B1 := hide ((Below.refl w6.heap.size w6).drew.trans b6); have RC7 := hide rc7; have RU7 := hide ru7; obtain ⟨a7, c7, hv7, _⟩ := rc7; obtain ⟨b7, d7, hu7, _⟩ := ru7; subst hv7; subst hu7; clear b6)))
  have S7 := hide (S6.out.trans (B2.out.mono S6.out.size))
  clear F B1 B2
  go_wp2
  go_ret
  exact ⟨rfl, S7.out⟩
end Go.Proofs.Ytaamkkfjafedgaa

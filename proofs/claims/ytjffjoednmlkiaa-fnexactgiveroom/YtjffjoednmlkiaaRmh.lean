/-
  What the program does with its maps of places: a room halved till it is small enough, a room put together with its buddies. Each contract says what it asks.
-/
import Derived.Test.YtjffjoednmlkiaaRml
import Derived.Deep.LoopGhost
namespace Go.Proofs.Ytjffjoednmlkiaa
open Go.RowKit Go.Maps Go.MapKept Go.ChangeMaps
set_option linter.unusedVariables false

/-- The room at a place is halved, j times, down to the order that is wanted: its first half stays there. -/
def hlG (a want : Nat) : Nat → Om → Om
  | 0, G => G
  | j + 1, G => hlG a want j ((G.set a (some ((want + j : Nat) : Int))).set (a + 2 ^ (want + j)) (some ((want + j : Nat) : Int)))
theorem chg_one {w w' : World} {b : Nat} (h : w.grownBy w' (some b)) : Chg b (b + 1) w w' := Chg.ofGrown h (fun k hk => by cases hk; omega)
theorem chg_drew {lo hi : Nat} (w : World) : Chg lo hi w w.drew := Chg.ofBelow (Below.refl _ _).drew

set_option maxRecDepth 100000 in
set_option maxHeartbeats 1600000 in
theorem halveTo_calls (b : Nat) (G : Om) (a want j : Nat) (w : World) (h : MapAt w b G) (hg : G.getD a none = some ((want + j : Nat) : Int)) (hb : a + 2 ^ (want + j) ≤ 32) (hj : want + j ≤ 5) :
    Calls Try.prog 156 #[.map (some b), .int .i64 (a : Int), .int .i64 (want : Int)] w fun e w' => e = .returned (.tuple #[]) ∧ MapAt w' b (hlG a want j G) ∧ Chg b (b + 1) w w' := by
  obtain ⟨E, hE⟩ : ∃ E, E = hlG a want j G := ⟨_, rfl⟩
  rw [← hE]
  have HE := hide hE
  have M := hide h
  have HG := hide hg
  have HB := hide hb
  clear h hg hb hE
  go_enter Try.func156, Try.ntmps156
  go_wp2
  go_loopg [] j (fun gk wr => ∃ (i : Nat) (G' : Om), i = gk ∧ i ≤ j ∧ MapAt wr b G' ∧ G'.getD a none = some ((want + i : Nat) : Int) ∧ a + 2 ^ (want + i) ≤ 32 ∧ hlG a want i G' = E ∧ Chg b (b + 1) w wr)
  case atStart => exact ⟨j, G, rfl, Nat.le_refl _, M.out, HG.out, HB.out, HE.out.symm, Chg.refl _ _ _⟩
  case round =>
    obtain ⟨i, G', rfl, hij, hm, hg, hb, he, hc⟩ := hrel
    have M2 := hide hm
    have C2 := hide hc
    have G2 := hide hg
    have a31 : a < 32 := by have := Nat.one_le_two_pow (n := want + i); omega
    have L := hm.look (k := (a : Int)) (wfI_small (by omega) (by omega))
    rw [lkM_nat, hg, Option.getD_some] at L
    cases i with
    | zero =>
      have E2 : Hid (G' = E) := he
      have HB2 := hide hb
      have eq0 : ((want + 0 : Nat) : Int) = (want : Int) := rfl
      rw [eq0] at L
      clear hm hg he hc hb eq0
      go_wp2
      go_end0
      refine ⟨rfl, ?_, C2.out⟩
      rw [← E2.out]
      exact M2.out
    | succ i =>
      have E2 := hide he
      have hpw : a + 2 ^ (want + i) < 32 := by
        have h1 : 2 ^ (want + (i + 1)) = 2 ^ (want + i) * 2 := by rw [show want + (i + 1) = (want + i) + 1 from rfl, Nat.pow_succ]
        have h2 := Nat.one_le_two_pow (n := want + i)
        omega
      obtain ⟨y, hy⟩ : ∃ y : Nat, y = want + i := ⟨_, rfl⟩
      have hy2 : ((want + (i + 1) : Nat) : Int) = (y : Int) + 1 := by omega
      rw [hy2] at L
      obtain ⟨w1, run1, m1, g1, s1⟩ := hm.put a a31 (y : Int) (wfI_small (by omega) (by omega))
      have L1 := m1.drew.look (k := (a : Int)) (wfI_small (by omega) (by omega))
      have ea : (G'.set a (some (y : Int))).getD a none = some (y : Int) := by
        rw [getD_set _ _ _ _ _ (by rw [hm.len]; exact a31), if_pos rfl]
      rw [lkM_nat, ea, Option.getD_some] at L1
      obtain ⟨w2, run2, m2, g2, s2⟩ := m1.drew.put (a + 2 ^ y) (by rw [hy]; exact hpw) (y : Int) (wfI_small (by omega) (by omega))
      have RL := hide (roomLong_calls y (by omega) w1.drew)
      obtain ⟨p, hp⟩ : ∃ p, p = pw y := ⟨_, rfl⟩
      have hp2 : ((a + 2 ^ y : Nat) : Int) = (a : Int) + p := by rw [hp]; unfold pw; omega
      rw [hp2] at run2
      rw [← hp] at RL
      have q1 : 1 ≤ p := by rw [hp]; exact pw_pos y
      have q2 : p ≤ 32 := by rw [hp]; exact pw_le y (by omega)
      have wl : (want : Int) < (y : Int) + 1 := by omega
      have y5 : (y : Int) ≤ 5 := by omega
      have wap : IntKind.i64.wrap ((a : Int) + p) = (a : Int) + p := by
        simp [IntKind.wrap, IntKind.bits, IntKind.signed]
        omega
      have M3 := hide m2
      have C3 : Hid (Chg b (b + 1) w w2) := (C2.out.trans (chg_one g1)).trans ((chg_drew w1).trans (chg_one g2))
      have HY := hide hy
      have HB2 := hide hb
      have E3 : Hid (hlG a want i ((G'.set a (some (y : Int))).set (a + 2 ^ y) (some (y : Int))) = E) := by show _ = _; rw [hy]; exact E2.out
      have EA : Hid (((G'.set a (some (y : Int))).set (a + 2 ^ y) (some (y : Int))).getD a none = some (y : Int)) := by
        show List.getD _ _ _ = _
        have h2 := Nat.one_le_two_pow (n := y)
        rw [getD_set _ _ _ _ _ (by rw [List.length_set, hm.len, hy]; exact hpw), if_neg (by omega), ea]
      clear hm hg he hc hb m1 m2 g1 g2 s1 s2 ea hp hp2 hy hy2 E2 G2 M2 C2 hpw
      go_wp2
      go_region_with (go_at_call 150; refine RL.out.mono ?_; rintro e w' ⟨rfl, rfl⟩)
      all_goals
        go_wp2
        go_roundg i
        case measure => omega
        case rel => exact ⟨i, _, rfl, by omega, M3.out, by rw [EA.out, HY.out], by
          have h1 : 2 ^ (want + (i + 1)) = 2 ^ (want + i) * 2 := by rw [show want + (i + 1) = (want + i) + 1 from rfl, Nat.pow_succ]
          have := HB2.out
          omega, E3.out, C3.out⟩

/-- The place of the other half. -/
def budN (a o : Nat) : Nat := if a / 2 ^ o % 2 = 0 then a + 2 ^ o else a - 2 ^ o
/-- The room at a place is put together with its buddy, as long as that is there whole. -/
def jnG : Nat → Nat → Nat → Om → Om
  | 0, a, o, G => G
  | f + 1, a, o, G => if o < 5 ∧ G.getD (budN a o) none = some (o : Int) then jnG f (min a (budN a o)) (o + 1) ((G.set (max a (budN a o)) none).set (min a (budN a o)) (some ((o + 1 : Nat) : Int))) else G
theorem bud_all : ∀ a : Nat, a < 32 → ∀ o : Nat, o < 5 → a % 2 ^ o = 0 → bud (a : Int) o = (budN a o : Int) ∧ budN a o < 32 ∧ min a (budN a o) % 2 ^ (o + 1) = 0 ∧ budN a o ≠ a ∧ budN a o % 2 ^ o = 0 ∧ budN (budN a o) o = a := by decide
theorem rm_nat (a o : Nat) (ha : a < 32) (ho : o ≤ 5) (h : a % 2 ^ o = 0) : rmB (a : Int) (o : Int) = true := by
  refine decide_eq_true ⟨by omega, by omega, by omega, by omega, ?_⟩
  rw [Int.toNat_natCast]
  unfold pw
  omega
theorem bd_nat (a o : Nat) (ha : a < 32) (ho : o < 5) (h : a % 2 ^ o = 0) : bdB (a : Int) (o : Int) = true ∧ bdV (a : Int) (o : Int) = (budN a o : Int) := by
  have e : bdB (a : Int) (o : Int) = true := by
    unfold bdB
    rw [rm_nat a o ha (by omega) h, decide_eq_true (by omega)]
    rfl
  refine ⟨e, ?_⟩
  unfold bdV
  rw [e, if_pos rfl, Int.toNat_natCast]
  exact (bud_all a ha o ho h).1
theorem bd_five (a : Int) : bdB a 5 = false := by
  unfold bdB
  simp
theorem min_is (a c : Nat) : (min a c = a ∧ max a c = c ∧ a ≤ c) ∨ (min a c = c ∧ max a c = a ∧ c ≤ a) := by omega

set_option maxRecDepth 100000 in
set_option maxHeartbeats 3200000 in
theorem joinFrom_calls (b : Nat) (G : Om) (a o : Nat) (w : World) (h : MapAt w b G) (ha : a < 32) (ho : o ≤ 5) (hr : a % 2 ^ o = 0) (hg : G.getD a none = some (o : Int)) :
    Calls Try.prog 59 #[.map (some b), .int .i64 (a : Int)] w fun e w' => e = .returned (.tuple #[]) ∧ MapAt w' b (jnG (5 - o) a o G) ∧ Chg b (b + 1) w w' := by
  obtain ⟨E, hE⟩ : ∃ E, E = jnG (5 - o) a o G := ⟨_, rfl⟩
  rw [← hE]
  have HE := hide hE
  have M := hide h
  have HG := hide hg
  have HR := hide hr
  clear h hg hE hr
  go_enter Try.func59, Try.ntmps59
  go_wp2_with fail
  refine (equalBuddy_calls b G (a : Int) (o : Int) w M.out (wfI_small (by omega) (by omega)) (by rw [lkM_nat, HG.out]; rfl)).mono ?_
  rintro e w1 ⟨rfl, b1⟩
  have M1 := hide (M.out.below b1)
  have C1 : Hid (Chg b (b + 1) w w1) := Chg.ofBelow b1
  clear b1 M
  obtain ⟨V0, hV0⟩ : ∃ V, V = bdV (a : Int) (o : Int) := ⟨_, rfl⟩
  obtain ⟨Z0, hZ0⟩ : ∃ Z, Z = (bdB (a : Int) (o : Int) && decide (lkM G (bdV (a : Int) (o : Int)) = some (o : Int))) := ⟨_, rfl⟩
  rw [← hZ0, ← hV0]
  have HV0 := hide hV0
  have HZ0 := hide hZ0
  clear hV0 hZ0
  go_wp2
  go_loopg [1, 4, 5] (5 - o) (fun gk v1 v4 v5 wr => ∃ (i a' o' : Nat) (G' : Om), i = gk ∧ o' + i = 5 ∧ a' < 32 ∧ a' % 2 ^ o' = 0 ∧ G'.getD a' none = some (o' : Int) ∧ v1 = .int .i64 (a' : Int) ∧ v4 = .int .i64 (bdV (a' : Int) (o' : Int)) ∧ v5 = .bool (bdB (a' : Int) (o' : Int) && decide (lkM G' (bdV (a' : Int) (o' : Int)) = some (o' : Int))) ∧ MapAt wr b G' ∧ jnG i a' o' G' = E ∧ Chg b (b + 1) w wr)
  case atStart => exact ⟨5 - o, a, o, G, rfl, by omega, ha, HR.out, HG.out, rfl, by rw [HV0.out], by rw [HZ0.out], M1.out, HE.out.symm, C1.out⟩
  case round =>
    obtain ⟨i, a', o', G', rfl, hi, ha', hr', hg', rfl, rfl, rfl, hm, he, hc⟩ := hrel
    have M2 := hide hm
    have C2 := hide hc
    clear M1 C1 HE HG HR HV0 HZ0 ha ho
    cases i with
    | zero =>
      obtain rfl : o' = 5 := by omega
      have e5 : bdB (a' : Int) ((5 : Nat) : Int) = false := bd_five _
      have E2 : Hid (G' = E) := he
      rw [e5, Bool.false_and]
      clear hm he hc hr' hg' hi e5
      go_wp2
      go_end0
      refine ⟨rfl, ?_, C2.out⟩
      rw [← E2.out]
      exact M2.out
    | succ i =>
      have ho5 : o' < 5 := by omega
      obtain ⟨e1, e2⟩ := bd_nat a' o' ha' ho5 hr'
      rw [e1, e2, Bool.true_and, lkM_nat]
      obtain ⟨_, k1, k2, k3, k4, _⟩ := bud_all a' ha' o' ho5 hr'
      clear e1 e2
      by_cases hy : G'.getD (budN a' o') none = some (o' : Int)
      case neg =>
        have E2 : Hid (G' = E) := by show G' = E; rw [← he]; unfold jnG; rw [if_neg (fun h => hy h.2)]
        rw [decide_eq_false hy]
        clear hm he hc hr' hg' hi hy k1 k2 k3 k4
        go_wp2
        go_end0
        refine ⟨rfl, ?_, C2.out⟩
        rw [← E2.out]
        exact M2.out
      rw [decide_eq_true hy]
      have E2 : Hid (jnG i (min a' (budN a' o')) (o' + 1) ((G'.set (max a' (budN a' o')) none).set (min a' (budN a' o')) (some ((o' + 1 : Nat) : Int))) = E) := by
        show _ = E
        rw [← he]
        conv => rhs; unfold jnG
        rw [if_pos ⟨ho5, hy⟩]
      obtain ⟨c, hc0⟩ : ∃ c, c = budN a' o' := ⟨_, rfl⟩
      rw [← hc0] at k1 k2 k3 hy E2 ⊢
      obtain ⟨mn, hmn⟩ : ∃ mn, mn = min a' c := ⟨_, rfl⟩
      obtain ⟨mx, hmx⟩ : ∃ mx, mx = max a' c := ⟨_, rfl⟩
      rw [← hmn] at k2 E2
      rw [← hmx] at E2
      have gm : G'.getD mn none = some (o' : Int) := by
        rcases min_is a' c with ⟨x1, x2, x3⟩ | ⟨x1, x2, x3⟩
        · rw [hmn, x1]; exact hg'
        · rw [hmn, x1]; exact hy
      have ml : mn < 32 := by omega
      have xl : mx < 32 := by omega
      have mne : mn ≠ mx := by omega
      obtain ⟨w2, run2, m2, g2, s2⟩ := hm.del mx xl 0
      have e3 : (G'.set mx none).getD mn none = some (o' : Int) := by
        rw [getD_set _ _ _ _ _ (by rw [hm.len]; exact xl), if_neg mne]; exact gm
      have L3 := m2.look (k := (mn : Int)) (wfI_small (by omega) (by omega))
      rw [lkM_nat, e3, Option.getD_some] at L3
      obtain ⟨w3, run3, m3, g3, s3⟩ := m2.put mn ml ((o' : Int) + 1) (wfI_small (by omega) (by omega))
      have eo : ((o' + 1 : Nat) : Int) = (o' : Int) + 1 := by omega
      rw [eo] at E2
      have e4 : ((G'.set mx none).set mn (some ((o' : Int) + 1))).getD mn none = some ((o' : Int) + 1) := by
        rw [getD_set _ _ _ _ _ (by rw [m2.len]; exact ml), if_pos rfl]
      have M3 := hide m3
      have C3 : Hid (Chg b (b + 1) w w3) := C2.out.trans ((chg_one g2).trans (chg_one g3))
      have E4 := hide e4
      have K2 := hide k2
      have EQ := hide (equalBuddy_calls b _ (mn : Int) ((o' : Int) + 1) w3 m3 (wfI_small (by omega) (by omega)) (by rw [lkM_nat, e4]; rfl))
      have xn : max (a' : Int) (c : Int) = (mx : Int) := by omega
      have nn : min (a' : Int) (c : Int) = (mn : Int) := by omega
      have o5 : (o' : Int) ≤ 4 := by omega
      clear hm he hc hr' hg' hy k1 k2 k3 k4 hc0 hmn hmx gm m2 m3 g2 g3 s2 s3 e3 e4 eo M2 C2 mne
      go_wp2_with (go_at_call 118; refine EQ.out.mono ?_; rintro e w4 ⟨rfl, b4⟩; have B4 := hide b4; clear b4)
      go_roundg i
      case measure => omega
      case rel =>
        refine ⟨i, mn, o' + 1, _, rfl, by omega, ml, K2.out, by rw [E4.out]; rfl, rfl, rfl, rfl, M3.out.below B4.out, E2.out, C3.out.trans (Chg.ofBelow B4.out)⟩
end Go.Proofs.Ytjffjoednmlkiaa

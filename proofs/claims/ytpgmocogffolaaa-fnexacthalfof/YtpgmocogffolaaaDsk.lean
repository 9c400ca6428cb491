/-
  Disks: what the laws' own small functions do with them (copy, compare, measure, mark, look whether the marks are held), call by call. Each contract says what it asks.
-/
import Derived.Test.YtpgmocogffolaaaHnd
namespace Go.Proofs.Ytpgmocogffolaaa
open Go.RowKit
set_option linter.unusedVariables false

set_option maxRecDepth 100000 in
set_option maxHeartbeats 400000 in
theorem szStringS_any (v : Value) (xs : List ByteArray) (l : Int) (w : World) (h : RdT w v xs) (hl0 : 0 ≤ l) (hl1 : l ≤ 1048576) :
    Calls Try.prog 60 #[v, .int .i64 l] w fun e w' => (∃ r : Int, e = .returned (.int .i64 r) ∧ (r < 0 ∨ (0 ≤ r ∧ r ≤ 1048576 ∧ xs.length ≤ 1048576))) ∧ w = w' := by
  obtain ⟨a, cap, rfl, h1, h2, h4, h3⟩ := h
  have hm : xs.length ≤ maxLen := by omega
  unfold maxLen at hm
  have H3 := hide h3
  have H4 := hide h4
  clear h3 h4 h2 h1
  by_cases hn : (xs.length : Int) ≤ l
  case neg =>
    have hn' : l - (xs.length : Int) < 0 := by omega
    go_enter Try.func60, Try.ntmps60
    go_wp2
    go_ret
    exact ⟨⟨-1, rfl, .inl (by decide)⟩, rfl⟩
  have hn' : ¬ l - (xs.length : Int) < 0 := by omega
  go_enter Try.func60, Try.ntmps60
  go_wp2
  go_loop [1, 5] (fun vl vi => ∃ (k : Nat) (l : Int), k ≤ xs.length ∧ vi = .int .i64 k ∧ vl = .int .i64 l ∧ 0 ≤ l ∧ l ≤ 1048576) (fun _ vi => xs.length - (intOf vi).toNat)
  case atStart => exact ⟨0, _, Nat.zero_le _, rfl, rfl, by omega, by omega⟩
  case round =>
    obtain ⟨k, l2, hk, rfl, rfl, hl0, hl1⟩ := hrel
    by_cases hlt : k < xs.length
    · rcases H3.out with h3 | ⟨b, off, rfl, hbs, hc⟩
      · subst h3; simp at hlt
      have hc1 := hc k hlt
      have hz : (xs.getD k ⟨#[]⟩).size ≤ maxLen := by
        apply H4.out
        rw [List.getD_eq_getElem?_getD, List.getElem?_eq_getElem hlt]
        exact List.getElem_mem hlt
      unfold maxLen at hz
      clear hc
      generalize xs.getD k ⟨#[]⟩ = z at hc1 hz
      by_cases hle : (z.size : Int) ≤ l2
      · have t1 : ¬ l2 - (z.size : Int) < 0 := by omega
        go_wp2
        go_round
        case rel => exact ⟨k + 1, _, by omega, by go_num, rfl, by omega, by omega⟩
        case measure => simp [intOf]; omega
      · have t1 : l2 - (z.size : Int) < 0 := by omega
        go_wp2
        go_ret
        exact ⟨⟨-1, rfl, .inl (by decide)⟩, rfl⟩
    · obtain rfl : k = xs.length := by omega
      go_wp2
      go_ret
      exact ⟨⟨l2, rfl, Or.inr ⟨hl0, hl1, by omega⟩⟩, rfl⟩

/-- What a disk's measure tells. -/
def SzD (P H : List ByteArray) (B : List Bool) : Prop := P.length ≤ 1048576 ∧ H.length ≤ 1048576 ∧ B.length ≤ 1048576

set_option maxRecDepth 100000 in
set_option maxHeartbeats 800000 in
theorem szDisk_calls (p h b : Value) (P H : List ByteArray) (B : List Bool) (w : World) (hp : RdT w p P) (hh : RdT w h H) (hb : RdZ w b B) :
    Calls Try.prog 15 #[.agg #[p, h, b], .int .i64 1048576] w fun e w' => (∃ r : Int, e = .returned (.int .i64 r) ∧ (r < 0 ∨ (0 ≤ r ∧ r ≤ 1048576 ∧ SzD P H B))) ∧ Below w.heap.size w w' := by
  have b0 := below_box w (.cells #[p, h, b] 25)
  have RP := hide (hp.below b0)
  have RH := hide (hh.below b0)
  have RB := hide (hb.below b0)
  clear hp hh hb
  have C : Hid (BoxAt _ _ _ _) := hide (BoxAt.new w #[p, h, b] 25)
  have B0 := hide b0
  clear b0
  go_enter Try.func15, Try.ntmps15
  go_wp2_with fail
  refine (szStringS_any _ P _ _ RP.out (by decide) (by decide)).mono ?_
  rintro e w1 ⟨⟨r, rfl, hr⟩, rfl⟩
  by_cases r0 : r < 0
  · go_wp2
    go_ret
    exact ⟨⟨-1, rfl, .inl (by decide)⟩, B0.out⟩
  have hrP := hide (hr.resolve_left r0)
  have r1 := hrP.out.2.1
  clear hr
  go_wp2_with fail
  refine (szStringS_any _ H _ _ RH.out (by omega) (by omega)).mono ?_
  rintro e w1 ⟨⟨r2, rfl, hr⟩, rfl⟩
  clear r0 r1
  by_cases r0 : r2 < 0
  · go_wp2
    go_ret
    exact ⟨⟨-1, rfl, .inl (by decide)⟩, B0.out⟩
  have hrH := hide (hr.resolve_left r0)
  have r1 := hrH.out.2.1
  clear hr
  go_wp2_with fail
  refine (szBoolS_calls _ B _ _ RB.out (by omega) (by omega)).mono ?_
  rintro e w1 ⟨⟨r3, rfl, hr⟩, rfl⟩
  clear r0 r1
  by_cases r0 : r3 < 0
  · go_wp2
    go_ret
    exact ⟨⟨-1, rfl, .inl (by decide)⟩, B0.out⟩
  have hrB := hide (hr.resolve_left r0)
  clear hr
  go_wp2
  go_ret
  exact ⟨⟨r3, rfl, .inr ⟨hrB.out.1, hrB.out.2.1, hrP.out.2.2, hrH.out.2.2, hrB.out.2.2⟩⟩, B0.out⟩

set_option maxRecDepth 100000 in
set_option maxHeartbeats 800000 in
theorem eqDisk_same (p h b p' h' b' : Value) (P H : List ByteArray) (B : List Bool) (w : World) (hp : RdT w p P) (hh : RdT w h H) (hb : RdZ w b B) (hp' : RdT w p' P) (hh' : RdT w h' H) (hb' : RdZ w b' B) :
    Calls Try.prog 20 #[.agg #[p, h, b], .agg #[p', h', b']] w fun e w' => e = .returned (.bool true) ∧ Below w.heap.size w w' := by
  have b0 := (below_box w (.cells #[p, h, b] 30)).trans ((below_box (w.alloc (.cells #[p, h, b] 30)) (.cells #[p', h', b'] 30)).mono (by simp))
  have RP := hide (hp.below b0)
  have RH := hide (hh.below b0)
  have RB := hide (hb.below b0)
  have RP' := hide (hp'.below b0)
  have RH' := hide (hh'.below b0)
  have RB' := hide (hb'.below b0)
  clear hp hh hb hp' hh' hb'
  have B0 := hide b0
  clear b0
  go_enter Try.func20, Try.ntmps20
  go_wp2_with fail
  refine (eqStringS_same _ _ P _ RP.out RP'.out).mono ?_
  rintro e w1 ⟨rfl, b1⟩
  have x1 := BoxAt.below (hide (BoxAt.new w #[p, h, b] 30)).out ((below_box _ (.cells #[p', h', b'] 30)).trans (b1.mono (by simp)))
  have y1 := BoxAt.below (BoxAt.new (w.alloc (.cells #[p, h, b] 30)) #[p', h', b'] 30) b1
  have X1 := hide x1
  have Y1 := hide y1
  obtain ⟨c0, c1, c2⟩ := x1.c3
  obtain ⟨d0, d1, d2⟩ := y1.c3
  simp only [World.size_alloc] at d0 d1 d2
  have D1 := hide b1
  clear b1 c0 d0 c2 d2 x1 y1
  go_wp2_with fail
  refine (eqStringS_same _ _ H _ (RH.out.below D1.out) (RH'.out.below D1.out)).mono ?_
  rintro e w2 ⟨rfl, b2⟩
  clear c1 d1
  have D2 := hide (D1.out.trans (b2.mono D1.out.size))
  obtain ⟨c0, c1, c2⟩ := (X1.out.below b2).c3
  obtain ⟨d0, d1, d2⟩ := (Y1.out.below b2).c3
  simp only [World.size_alloc] at d0 d1 d2
  clear b2 c0 d0 c1 d1
  go_wp2_with fail
  refine (eqBoolS_same _ _ B _ (RB.out.below D2.out) (RB'.out.below D2.out)).mono ?_
  rintro e w3 ⟨rfl, b3⟩
  clear c2 d2
  have D3 := hide (D2.out.trans (b3.mono D2.out.size))
  clear b3
  go_wp2
  go_ret
  exact ⟨rfl, B0.out.trans (D3.out.mono B0.out.size)⟩
end Go.Proofs.Ytpgmocogffolaaa

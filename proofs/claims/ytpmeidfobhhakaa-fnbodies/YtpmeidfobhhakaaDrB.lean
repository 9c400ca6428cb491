/-
  The model's drawing of frames and texts out of bytes, call by call: each draw returns within its bounds, moves its own cursor on and touches nothing else that was there. Each contract says what it asks.
-/
import Derived.Test.YtpmeidfobhhakaaRda
import Derived.Test.YtpmeidfobhhakaaCurB
namespace Go.Proofs.Ytpmeidfobhhakaa
open Go.RowKit
set_option linter.unusedVariables false

theorem CurS.later {w w' : World} {g k k' n : Nat} {cv : Value} {s : Int} (h : CurS w g cv k) (hg : w.grownBy w' (some g)) (hh : w'.heap[g]? = some (.cells #[cv, .int .i64 n, .int .u64 s] 54 (0, 0))) (hn : n ≤ k') : CurS w' g cv k' :=
  ⟨⟨n, s, hn, hh⟩, fun w2 h2 => h.code w2 (grown_trans hg h2)⟩
theorem grown_set {w X : World} {r : Option Nat} (h : w.grownBy X r) {p : Nat} (hp : w.heap.size ≤ p) (i : Nat) (v : Value) : w.grownBy (X.setCell ⟨p, i, none⟩ v) r :=
  ⟨h.os, h.tape, h.output, by simpa using h.size, fun j hj hne => (Below.heap_setCell X ⟨p, i, none⟩ v j (by show j ≠ p; omega)).trans (h.block j hj hne)⟩
theorem grown_alloc {w X : World} {r : Option Nat} (h : w.grownBy X r) (o : Obj) : w.grownBy (X.alloc o) r := grown_trans h (World.grownBy_alloc X o r)
theorem CurS.set_far {w0 w : World} {g k : Nat} {cv : Value} (h : CurS w g cv k) (h0 : ∃ k0, CurS w0 g cv k0) (hg : w0.grownBy w (some g)) {p : Nat} (hp : w0.heap.size ≤ p) (hne : p ≠ g) (i : Nat) (v : Value) : CurS (w.setCell ⟨p, i, none⟩ v) g cv k := by
  obtain ⟨n, s, hn, hh⟩ := h.at_
  obtain ⟨k0, h0⟩ := h0
  exact h0.later (grown_set hg hp i v) ((Below.heap_setCell w ⟨p, i, none⟩ v g (by show g ≠ p; exact fun e => hne e.symm)).trans hh) hn

set_option maxRecDepth 100000 in
set_option maxHeartbeats 800000 in
theorem among_in (g : Nat) (cv v : Value) (xs : List Int) (k : Nat) (w : World) (h : CurS w g cv k) (hk : k ≤ 1000000000) (hr : ∀ w', w.grownBy w' (some g) → Rd w' v xs) (h0 : 1 ≤ xs.length) (hl : xs.length ≤ 200) :
    Calls Try.prog 42 #[.pointer (some ⟨g, 0, none⟩), v] w fun e w' => ∃ z : Int, z ∈ xs ∧ e = .returned (.int .i64 z) ∧ CurS w' g cv (k + 2) ∧ w.grownBy w' (some g) := by
  have H := hide h
  have R := hide hr
  have hr0 := hr w (World.grownBy.refl _ _)
  obtain ⟨a, cap, rfl, _, _, _⟩ := hr0
  clear h hr
  go_enter Try.func42, Try.ntmps42
  go_wp2_with fail
  refine (pick_calls g cv k xs.length _ H.out hk h0 (by omega)).mono ?_
  rintro e w1 ⟨r1, hr1, rfl, hc1, hg1⟩
  have C1 := hide hc1
  have G1 := hide hg1
  obtain ⟨a', cap', hv, _, _, h3⟩ := R.out w1 hg1
  have hv2 : a' = a := by simp at hv; exact hv.1.symm
  subst hv2
  clear hv hc1 hg1 H
  rcases h3 with h3 | ⟨b, off, rfl, hbs, hc⟩
  · subst h3; simp at h0
  have hcell := hc r1 hr1
  obtain ⟨z, hz⟩ : ∃ z, z = xs.getD r1 0 := ⟨_, rfl⟩
  have hm : z ∈ xs := by
    rw [hz, List.getD_eq_getElem?_getD, List.getElem?_eq_getElem hr1]
    exact List.getElem_mem hr1
  have HM := hide hm
  rw [← hz] at hcell
  clear hz hc hm
  have t : (r1 : Int) < (xs.length : Int) := by omega
  go_wp2
  go_ret
  exact ⟨z, HM.out, rfl, C1.out, G1.out⟩

set_option maxRecDepth 100000 in
set_option maxHeartbeats 1600000 in
theorem frame_calls (g : Nat) (cv : Value) (k : Nat) (w : World) (h : CurS w g cv k) (hk : k ≤ 900000000) :
    Calls Try.prog 29 #[.pointer (some ⟨g, 0, none⟩)] w fun e w' => ∃ (K A E : Int) (b : ByteArray), (-1 ≤ A ∧ A ≤ 60001) ∧ b.size ≤ 18 ∧ e = .returned (.agg #[.int .i64 K, .int .i64 A, .int .i64 E, .string b]) ∧ CurS w' g cv (k + 12) ∧ w.grownBy w' (some g) := by
  have H := hide h
  have hgl : g < w.heap.size := curS_lt h
  clear h
  go_enter Try.func29, Try.ntmps29
  go_wp2_with fail
  refine (pick_calls g cv k 3 _ (H.out.alloc _) (by omega) (by omega) (by omega)).mono ?_
  rintro e w1 ⟨r1, hr1, rfl, hc1, hg1⟩
  have C1 := hide hc1
  have G1 := hide hg1
  clear hc1 hg1
  go_wp2_with fail
  refine (pick_calls g cv (k + 2) 9 _ C1.out (by omega) (by omega) (by omega)).mono ?_
  rintro e w2 ⟨r2, hr2, rfl, hc2, hg2⟩
  have C2 := hide hc2
  have G2 := hide (grown_trans G1.out hg2)
  clear hc2 hg2 C1 G1
  go_wp2_with fail
  refine (pick_calls g cv (k + 4) 5 _ C2.out (by omega) (by omega) (by omega)).mono ?_
  rintro e w3 ⟨r3, hr3, rfl, hc3, hg3⟩
  have C3 := hide hc3
  have G3 := hide (grown_trans G2.out hg3)
  have hl3 : g < w3.heap.size := curS_lt hc3
  clear hc3 hg3 C2 G2
  go_wp2_with fail
  refine (of_calls g cv _ [⟨#[]⟩, ⟨#[97]⟩, ⟨#[98, 111, 100, 121]⟩, ⟨#[115, 105, 120, 116, 101, 101, 110, 32, 98, 121, 116, 101, 115, 32, 46, 46]⟩, ⟨#[0, 0]⟩] (k + 6) 16 _ (C3.out.alloc _) (by omega) (rdS_build hl3) (by decide) (by decide) (by decide)).mono ?_
  rintro e w4 ⟨b, hb, rfl, hc4, hg4⟩
  have C4 := hide hc4
  have G4 := hide (grown_trans G3.out (grown_trans (World.grownBy_alloc _ _ _) hg4))
  clear hc4 hg4 C3 G3
  go_wp2_with fail
  refine (pick_calls g cv (k + 8) 30 _ (C4.out.alloc _) (by omega) (by omega) (by omega)).mono ?_
  rintro e w5 ⟨r5, hr5, rfl, hc5, hg5⟩
  have C5 := hide hc5
  have G5 := hide (grown_trans (World.grownBy_alloc w _ _) (grown_trans G4.out (grown_trans (World.grownBy_alloc _ _ _) hg5)))
  have hpq : w.heap.size < w4.heap.size := by have := G4.out.size; simp at this; omega
  have hpg : w.heap.size ≠ g := by omega
  have hqg : w4.heap.size ≠ g := by have := C4.out; have := curS_lt this; omega
  have hp5 : w5.heap[w.heap.size]? = some (.cells #[.int .i64 0, .int .i64 0, .int .i64 0, .string ⟨#[]⟩] 48 (0, 0)) := by
    rw [hg5.block w.heap.size (by simp; omega) (by simp; omega), Below.heap_alloc _ _ _ hpq, G4.out.block w.heap.size (by simp) (by simp; omega)]
    exact heap_alloc_new w _
  have hq5 : w5.heap[w4.heap.size]? = some (.cells #[.int .i64 (1 + (r1 : Int)), .int .i64 r2, .int .i64 r3, .string b] 48 (0, 0)) := by
    rw [hg5.block w4.heap.size (by simp) (by simp; omega)]
    exact heap_alloc_new w4 _
  have l5 : w4.heap.size < w5.heap.size := by have := hg5.size; simp at this; omega
  clear hc5 hg5 C4 G4 hl3
  have HP5 := hide hp5
  have HQ5 := hide hq5
  have hne : ¬ w.heap.size = w4.heap.size := by omega
  have hne' : ¬ w4.heap.size = w.heap.size := by omega
  rcases (by omega : r5 = 0 ∨ r5 = 1 ∨ r5 = 2 ∨ 3 ≤ r5) with rfl | rfl | rfl | h3
  · clear hp5 hq5
    go_wp2_with fail
    have hl5 : g < w5.heap.size := curS_lt C5.out
    refine (among_in g cv _ [0, 255, 256] (k + 10) _ (C5.out.alloc _) (by omega) (rd_build hl5 (by decide)) (by decide) (by decide)).mono ?_
    rintro e w6 ⟨z, hz, rfl, hc6, hg6⟩
    have C6 := hide hc6
    have HZ := hide hz
    have G6 := hide (grown_trans G5.out (grown_trans (World.grownBy_alloc _ _ _) hg6))
    have hp6 : w6.heap[w.heap.size]? = some (.cells #[.int .i64 0, .int .i64 0, .int .i64 0, .string ⟨#[]⟩] 48 (0, 0)) := by
      rw [hg6.block w.heap.size (by simp; omega) (by simp; omega), Below.heap_alloc _ _ _ (by omega)]
      exact HP5.out
    have hq6 : w6.heap[w4.heap.size]? = some (.cells #[.int .i64 (1 + (r1 : Int)), .int .i64 r2, .int .i64 r3, .string b] 48 (0, 0)) := by
      rw [hg6.block w4.heap.size (by simp; omega) (by simp; omega), Below.heap_alloc _ _ _ (by omega)]
      exact HQ5.out
    have HP6 := hide ((Below.heap_setCell w6 ⟨w4.heap.size, 0, none⟩ (.int .i64 z) w.heap.size (by show _ ≠ _; omega)).trans hp6)
    have D6 := hide (CurS.set_far C6.out ⟨k, H.out⟩ G6.out (Nat.le_of_lt hpq) hqg 0 (.int .i64 z))
    have E6 := hide (grown_set G6.out (Nat.le_of_lt hpq) 0 (.int .i64 z))
    obtain ⟨⟨p0, p1, p2, p3⟩, q0, q1, q2, q3⟩ := cells4 hp6
    obtain ⟨⟨c0, c1, c2, c3⟩, d0, d1, d2, d3⟩ := cells4 hq6
    clear hc6 hg6 hp6 hq6 hz
    go_wp2
    (try simp only [Exit.inBlock, Exit.then])
    refine bodyPost_ret (res_frame rfl _ _ w.heap.size z r2 r3 b (0, 0) rfl (store4 HP6.out _ _ _ _)) rfl ⟨z, r2, r3, b, ⟨by omega, by omega⟩, by omega, rfl, ?_, ?_⟩
    · refine CurS.set_far (CurS.set_far (CurS.set_far (CurS.set_far D6.out ⟨k, H.out⟩ E6.out (Nat.le_refl _) hpg _ _) ⟨k, H.out⟩ ?_ (Nat.le_refl _) hpg _ _) ⟨k, H.out⟩ ?_ (Nat.le_refl _) hpg _ _) ⟨k, H.out⟩ ?_ (Nat.le_refl _) hpg _ _
      · exact grown_set E6.out (Nat.le_refl _) _ _
      · exact grown_set (grown_set E6.out (Nat.le_refl _) _ _) (Nat.le_refl _) _ _
      · exact grown_set (grown_set (grown_set E6.out (Nat.le_refl _) _ _) (Nat.le_refl _) _ _) (Nat.le_refl _) _ _
    · exact grown_set (grown_set (grown_set (grown_set E6.out (Nat.le_refl _) _ _) (Nat.le_refl _) _ _) (Nat.le_refl _) _ _) (Nat.le_refl _) _ _
  · clear hp5 hq5
    go_wp2_with fail
    have hl5 : g < w5.heap.size := curS_lt C5.out
    refine (among_in g cv _ [-1, 60000, 60001] (k + 10) _ (C5.out.alloc _) (by omega) (rd_build hl5 (by decide)) (by decide) (by decide)).mono ?_
    rintro e w6 ⟨z, hz, rfl, hc6, hg6⟩
    have C6 := hide hc6
    have HZ := hide hz
    have G6 := hide (grown_trans G5.out (grown_trans (World.grownBy_alloc _ _ _) hg6))
    have hp6 : w6.heap[w.heap.size]? = some (.cells #[.int .i64 0, .int .i64 0, .int .i64 0, .string ⟨#[]⟩] 48 (0, 0)) := by
      rw [hg6.block w.heap.size (by simp; omega) (by simp; omega), Below.heap_alloc _ _ _ (by omega)]
      exact HP5.out
    have hq6 : w6.heap[w4.heap.size]? = some (.cells #[.int .i64 (1 + (r1 : Int)), .int .i64 r2, .int .i64 r3, .string b] 48 (0, 0)) := by
      rw [hg6.block w4.heap.size (by simp; omega) (by simp; omega), Below.heap_alloc _ _ _ (by omega)]
      exact HQ5.out
    have HP6 := hide ((Below.heap_setCell w6 ⟨w4.heap.size, 1, none⟩ (.int .i64 z) w.heap.size (by show _ ≠ _; omega)).trans hp6)
    have D6 := hide (CurS.set_far C6.out ⟨k, H.out⟩ G6.out (Nat.le_of_lt hpq) hqg 1 (.int .i64 z))
    have E6 := hide (grown_set G6.out (Nat.le_of_lt hpq) 1 (.int .i64 z))
    obtain ⟨⟨p0, p1, p2, p3⟩, q0, q1, q2, q3⟩ := cells4 hp6
    obtain ⟨⟨c0, c1, c2, c3⟩, d0, d1, d2, d3⟩ := cells4 hq6
    clear hc6 hg6 hp6 hq6 hz
    go_wp2
    (try simp only [Exit.inBlock, Exit.then])
    refine bodyPost_ret (res_frame rfl _ _ w.heap.size (1 + (r1 : Int)) z r3 b (0, 0) rfl (store4 HP6.out _ _ _ _)) rfl ⟨(1 + (r1 : Int)), z, r3, b, by have := HZ.out; simp at this; omega, by omega, rfl, ?_, ?_⟩
    · refine CurS.set_far (CurS.set_far (CurS.set_far (CurS.set_far D6.out ⟨k, H.out⟩ E6.out (Nat.le_refl _) hpg _ _) ⟨k, H.out⟩ ?_ (Nat.le_refl _) hpg _ _) ⟨k, H.out⟩ ?_ (Nat.le_refl _) hpg _ _) ⟨k, H.out⟩ ?_ (Nat.le_refl _) hpg _ _
      · exact grown_set E6.out (Nat.le_refl _) _ _
      · exact grown_set (grown_set E6.out (Nat.le_refl _) _ _) (Nat.le_refl _) _ _
      · exact grown_set (grown_set (grown_set E6.out (Nat.le_refl _) _ _) (Nat.le_refl _) _ _) (Nat.le_refl _) _ _
    · exact grown_set (grown_set (grown_set (grown_set E6.out (Nat.le_refl _) _ _) (Nat.le_refl _) _ _) (Nat.le_refl _) _ _) (Nat.le_refl _) _ _
  · obtain ⟨⟨p0, p1, p2, p3⟩, q0, q1, q2, q3⟩ := cells4 hp5
    obtain ⟨⟨c0, c1, c2, c3⟩, d0, d1, d2, d3⟩ := cells4 hq5
    have HP6 := hide ((Below.heap_setCell w5 ⟨w4.heap.size, 3, none⟩ (.string ⟨#[115, 101, 118, 101, 110, 116, 101, 101, 110, 32, 98, 121, 116, 101, 115, 32, 46, 46]⟩) w.heap.size (by show _ ≠ _; omega)).trans hp5)
    have D6 := hide (CurS.set_far C5.out ⟨k, H.out⟩ G5.out (Nat.le_of_lt hpq) hqg 3 (.string ⟨#[115, 101, 118, 101, 110, 116, 101, 101, 110, 32, 98, 121, 116, 101, 115, 32, 46, 46]⟩))
    have E6 := hide (grown_set G5.out (Nat.le_of_lt hpq) 3 (.string ⟨#[115, 101, 118, 101, 110, 116, 101, 101, 110, 32, 98, 121, 116, 101, 115, 32, 46, 46]⟩))
    clear hp5 hq5
    go_wp2
    (try simp only [Exit.inBlock, Exit.then])
    refine bodyPost_ret (res_frame rfl _ _ w.heap.size (1 + (r1 : Int)) r2 r3 ⟨#[115, 101, 118, 101, 110, 116, 101, 101, 110, 32, 98, 121, 116, 101, 115, 32, 46, 46]⟩ (0, 0) rfl (store4 HP6.out _ _ _ _)) rfl ⟨(1 + (r1 : Int)), r2, r3, ⟨#[115, 101, 118, 101, 110, 116, 101, 101, 110, 32, 98, 121, 116, 101, 115, 32, 46, 46]⟩, ⟨by omega, by omega⟩, by decide, rfl, ?_, ?_⟩
    · refine CurS.set_far (CurS.set_far (CurS.set_far (CurS.set_far (D6.out.mono (by omega)) ⟨k, H.out⟩ E6.out (Nat.le_refl _) hpg _ _) ⟨k, H.out⟩ ?_ (Nat.le_refl _) hpg _ _) ⟨k, H.out⟩ ?_ (Nat.le_refl _) hpg _ _) ⟨k, H.out⟩ ?_ (Nat.le_refl _) hpg _ _
      · exact grown_set E6.out (Nat.le_refl _) _ _
      · exact grown_set (grown_set E6.out (Nat.le_refl _) _ _) (Nat.le_refl _) _ _
      · exact grown_set (grown_set (grown_set E6.out (Nat.le_refl _) _ _) (Nat.le_refl _) _ _) (Nat.le_refl _) _ _
    · exact grown_set (grown_set (grown_set (grown_set E6.out (Nat.le_refl _) _ _) (Nat.le_refl _) _ _) (Nat.le_refl _) _ _) (Nat.le_refl _) _ _
  · obtain ⟨⟨p0, p1, p2, p3⟩, q0, q1, q2, q3⟩ := cells4 hp5
    obtain ⟨⟨c0, c1, c2, c3⟩, d0, d1, d2, d3⟩ := cells4 hq5
    have t0 : ¬ (r5 : Int) = 0 := by omega
    have t1 : ¬ (r5 : Int) = 1 := by omega
    have t2 : ¬ (r5 : Int) = 2 := by omega
    have t0' : ((r5 : Int) == 0) = false := by simp; omega
    have t1' : ((r5 : Int) == 1) = false := by simp; omega
    have t2' : ((r5 : Int) == 2) = false := by simp; omega
    clear hp5 hq5
    go_wp2
    (try simp only [Exit.inBlock, Exit.then])
    refine bodyPost_ret (res_frame rfl _ _ w.heap.size (1 + (r1 : Int)) r2 r3 b (0, 0) rfl (store4 HP5.out _ _ _ _)) rfl ⟨(1 + (r1 : Int)), r2, r3, b, ⟨by omega, by omega⟩, by omega, rfl, ?_, ?_⟩
    · refine CurS.set_far (CurS.set_far (CurS.set_far (CurS.set_far (C5.out.mono (by omega)) ⟨k, H.out⟩ G5.out (Nat.le_refl _) hpg _ _) ⟨k, H.out⟩ ?_ (Nat.le_refl _) hpg _ _) ⟨k, H.out⟩ ?_ (Nat.le_refl _) hpg _ _) ⟨k, H.out⟩ ?_ (Nat.le_refl _) hpg _ _
      · exact grown_set G5.out (Nat.le_refl _) _ _
      · exact grown_set (grown_set G5.out (Nat.le_refl _) _ _) (Nat.le_refl _) _ _
      · exact grown_set (grown_set (grown_set G5.out (Nat.le_refl _) _ _) (Nat.le_refl _) _ _) (Nat.le_refl _) _ _
    · exact grown_set (grown_set (grown_set (grown_set G5.out (Nat.le_refl _) _ _) (Nat.le_refl _) _ _) (Nat.le_refl _) _ _) (Nat.le_refl _) _ _
end Go.Proofs.Ytpmeidfobhhakaa

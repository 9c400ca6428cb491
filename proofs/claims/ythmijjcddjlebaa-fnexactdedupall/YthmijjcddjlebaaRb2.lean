/-
  A recipe's uses, whether it is good, and its texts, by the program, call by call. Each says what it asks.
-/
import Derived.Test.YthmijjcddjlebaaRb1
import Derived.RangeFuncBox
import Derived.Laws.EntriesVeiled
import Derived.Shelf.Abstract
namespace Go.Proofs.Ythmijjcddjlebaa
open Go.RowKit
set_option linter.unusedVariables false

/-- A struct of two fields in a box. -/
def Boxed2 (W : World) (B : Nat) (t : TypeId) (v u : Value) : Prop := W.heap[B]? = some (.cells #[v, u] t (0, 0))
theorem boxed2_new (W : World) (t : TypeId) (v u : Value) : Boxed2 (W.alloc (.cells #[v, u] t)) W.heap.size t v u := World.alloc_heap_new W _
theorem boxed2_alloc {W : World} {B : Nat} {t : TypeId} {v u : Value} (h : Boxed2 W B t v u) (o : Obj) : Boxed2 (W.alloc o) B t v u := (Below.heap_alloc W o B (Array.getElem?_eq_some_iff.1 h).1).trans h
theorem Boxed2.c0 {W : World} {B : Nat} {t : TypeId} {v u : Value} (h : Boxed2 W B t v u) : W.cell? ⟨B, 0, none⟩ = some v := by simp [World.cell?, show W.heap[B]? = _ from h]
theorem Boxed2.c1 {W : World} {B : Nat} {t : TypeId} {v u : Value} (h : Boxed2 W B t v u) : W.cell? ⟨B, 1, none⟩ = some u := by simp [World.cell?, show W.heap[B]? = _ from h]

abbrev thereOk (n : Nat) (x : Int) : Prop := 0 ≤ x ∧ x < (n : Int)
abbrev useOk (n : Nat) (xs : List Int) : Prop := xs.length ≤ 80 ∧ ∀ i, i < xs.length → thereOk n (xs.getD i 0)
abbrev goodRec (C : List ByteArray) (U : List (List Int)) : Prop := U.length ≤ 8 ∧ C.length ≤ 600 ∧ (∀ i, i < C.length → chunkOk (C.getD i ⟨#[]⟩)) ∧ unlike9 C ∧ ∀ i, i < U.length → useOk C.length (U.getD i [])

set_option maxRecDepth 100000 in
theorem isThere_calls (x : Int) (B : Nat) (ac : Option Addr) (nc cc : Nat) (w : World) (hB : w.cell? ⟨B, 0, none⟩ = some (.slice ac nc cc)) :
    Calls Try.prog 125 #[.int .i64 x, .pointer (some ⟨B, 0, none⟩)] w fun e w' => e = .returned (.bool (decide (thereOk nc x))) ∧ w = w' := by
  by_cases h0 : 0 ≤ x
  · have e : decide (thereOk nc x) = decide (x < (nc : Int)) := decide_eq_decide.2 ⟨fun h => h.2, fun h => ⟨h0, h⟩⟩
    rw [e]
    clear e
    go_enter Try.func125, Try.ntmps125
    go_wp2
    go_ret
    exact ⟨rfl, rfl⟩
  · rw [decide_eq_false (fun h => h0 h.1)]
    have h0b : decide (0 ≤ x) = false := decide_eq_false h0
    go_enter Try.func125, Try.ntmps125
    go_wp2
    go_ret
    exact ⟨rfl, rfl⟩

set_option maxRecDepth 100000 in
set_option maxHeartbeats 400000 in
theorem allThere_calls (v : Value) (xs : List Int) (B : Nat) (ac : Option Addr) (nc cc : Nat) (w : World) (h : Rd w v xs) (hB : w.cell? ⟨B, 0, none⟩ = some (.slice ac nc cc)) :
    Calls Try.prog 87 #[v, .func (.func 125) #[] #[.pointer (some ⟨B, 0, none⟩)]] w fun e w' => e = .returned (.bool (decide (∀ i, i < xs.length → thereOk nc (xs.getD i 0)))) ∧ w = w' := by
  obtain ⟨a, cap, rfl, h1, h2, h3⟩ := h
  have hm : xs.length ≤ maxLen := by omega
  unfold maxLen at hm
  have H3 := hide h3
  have HB := hide hB
  clear h3 h2 h1 hB
  go_enter Try.func87, Try.ntmps87
  go_wp2
  go_loop [9] (fun vi => ∃ k : Nat, k ≤ xs.length ∧ vi = .int .i64 k ∧ ∀ i, i < k → thereOk nc (xs.getD i 0)) (fun vi => xs.length - (intOf vi).toNat)
  case atStart => exact ⟨0, Nat.zero_le _, rfl, fun i hi => by omega⟩
  case round =>
    obtain ⟨k, hk, rfl, hall⟩ := hrel
    have HA := hide hall
    clear hall
    by_cases hlt : k < xs.length
    · rcases H3.out with h3 | ⟨b, off, rfl, hbs, hc⟩
      · subst h3; simp at hlt
      have hc1 := hc k hlt
      clear hc
      obtain ⟨z, hzz⟩ : ∃ z, z = xs.getD k 0 := ⟨_, rfl⟩
      rw [← hzz] at hc1
      have HZ := hide hzz
      have hlt' : (k : Int) < (xs.length : Int) := by omega
      clear hzz
      go_wp2_with fail
      refine (isThere_calls z B ac nc cc _ HB.out).mono ?_
      rintro e w1 ⟨rfl, rfl⟩
      by_cases h16 : thereOk nc z
      · rw [decide_eq_true h16]
        have H16 := hide h16
        clear h16
        go_wp2
        go_round
        case rel =>
          refine ⟨k + 1, by omega, by go_num, fun i hi => ?_⟩
          by_cases e : i = k
          · subst e; rw [← HZ.out]; exact H16.out
          · exact HA.out i (by omega)
        case measure => simp [intOf]; omega
      · rw [decide_eq_false h16]
        have H16 := hide h16
        clear h16
        go_wp2
        go_ret
        refine ⟨ret_bool ?_, rfl⟩
        symm
        exact decide_eq_false (fun h => H16.out (by rw [HZ.out]; exact h k hlt))
    · obtain rfl : k = xs.length := by omega
      go_wp2
      go_ret
      exact ⟨ret_bool (decide_eq_true HA.out).symm, rfl⟩

set_option maxRecDepth 100000 in
set_option maxHeartbeats 400000 in
theorem isUse_calls (v : Value) (xs : List Int) (B B2 : Nat) (ac : Option Addr) (nc cc : Nat) (w : World) (h : Rd w v xs) (hB : w.cell? ⟨B, 0, none⟩ = some (.slice ac nc cc)) (hB2 : w.cell? ⟨B2, 0, none⟩ = some (.func (.func 125) #[] #[.pointer (some ⟨B, 0, none⟩)])) :
    Calls Try.prog 126 #[v, .pointer (some ⟨B2, 0, none⟩)] w fun e w' => e = .returned (.bool (decide (useOk nc xs))) ∧ w = w' := by
  have R := hide h
  obtain ⟨a, cap, rfl, h1, h2, h3⟩ := h
  have hm : xs.length ≤ maxLen := by omega
  unfold maxLen at hm
  clear h3 h2 h1
  by_cases h80 : xs.length ≤ 80
  · have e : Hid (decide (∀ i, i < xs.length → thereOk nc (xs.getD i 0)) = decide (useOk nc xs)) := decide_eq_decide.2 ⟨fun h => ⟨h80, h⟩, fun h => h.2⟩
    have h80' : (xs.length : Int) ≤ 80 := by omega
    have HB := hide hB
    clear hB
    generalize decide (useOk nc xs) = y at e ⊢
    go_enter Try.func126, Try.ntmps126
    go_wp2_with fail
    refine (allThere_calls _ xs B ac nc cc _ R.out HB.out).mono ?_
    rintro e' w1 ⟨rfl, rfl⟩
    rw [e.out]
    go_wp2
    go_ret
    exact ⟨rfl, rfl⟩
  · rw [decide_eq_false (fun h => h80 h.1)]
    have h80' : ¬ (xs.length : Int) ≤ 80 := by omega
    have h80b : decide ((xs.length : Int) ≤ 80) = false := decide_eq_false h80'
    go_enter Try.func126, Try.ntmps126
    go_wp2
    go_ret
    exact ⟨rfl, rfl⟩

set_option maxRecDepth 100000 in
set_option maxHeartbeats 400000 in
theorem allUse_calls (v : Value) (U : List (List Int)) (B B2 : Nat) (ac : Option Addr) (nc cc : Nat) (w : World) (h : RdM w v U) (hB : w.cell? ⟨B, 0, none⟩ = some (.slice ac nc cc)) (hB2 : w.cell? ⟨B2, 0, none⟩ = some (.func (.func 125) #[] #[.pointer (some ⟨B, 0, none⟩)])) :
    Calls Try.prog 129 #[v, .func (.func 126) #[] #[.pointer (some ⟨B2, 0, none⟩)]] w fun e w' => e = .returned (.bool (decide (∀ i, i < U.length → useOk nc (U.getD i [])))) ∧ w = w' := by
  obtain ⟨a, cap, rfl, h1, h2, h3⟩ := h
  have hm : U.length ≤ maxLen := by omega
  unfold maxLen at hm
  have H3 := hide h3
  have HB := hide hB
  have HB2 := hide hB2
  clear h3 h2 h1 hB hB2
  go_enter Try.func129, Try.ntmps129
  go_wp2
  go_loop [9] (fun vi => ∃ k : Nat, k ≤ U.length ∧ vi = .int .i64 k ∧ ∀ i, i < k → useOk nc (U.getD i [])) (fun vi => U.length - (intOf vi).toNat)
  case atStart => exact ⟨0, Nat.zero_le _, rfl, fun i hi => by omega⟩
  case round =>
    obtain ⟨k, hk, rfl, hall⟩ := hrel
    have HA := hide hall
    clear hall
    by_cases hlt : k < U.length
    · rcases H3.out with h3 | ⟨b, off, rfl, hbs, hc⟩
      · subst h3; simp at hlt
      obtain ⟨u, hc1, hru⟩ := hc k hlt
      have RU := hide hru
      clear hc
      obtain ⟨z, hzz⟩ : ∃ z, z = U.getD k [] := ⟨_, rfl⟩
      rw [← hzz] at RU hru
      have HZ := hide hzz
      obtain ⟨au, cu, rfl, _⟩ := hru
      have hlt' : (k : Int) < (U.length : Int) := by omega
      clear hzz
      go_wp2_with fail
      refine (isUse_calls _ z B B2 ac nc cc _ RU.out HB.out HB2.out).mono ?_
      rintro e w1 ⟨rfl, rfl⟩
      by_cases h16 : useOk nc z
      · rw [decide_eq_true h16]
        have H16 := hide h16
        clear h16
        go_wp2
        go_round
        case rel =>
          refine ⟨k + 1, by omega, by go_num, fun i hi => ?_⟩
          by_cases e : i = k
          · subst e; rw [← HZ.out]; exact H16.out
          · exact HA.out i (by omega)
        case measure => simp [intOf]; omega
      · rw [decide_eq_false h16]
        have H16 := hide h16
        clear h16
        go_wp2
        go_ret
        refine ⟨ret_bool ?_, rfl⟩
        symm
        exact decide_eq_false (fun h => H16.out (by rw [HZ.out]; exact h k hlt))
    · obtain rfl : k = U.length := by omega
      go_wp2
      go_ret
      exact ⟨ret_bool (decide_eq_true HA.out).symm, rfl⟩

set_option maxRecDepth 100000 in
set_option maxHeartbeats 1600000 in
theorem isGoodRecipe_calls (vc vu : Value) (C : List ByteArray) (U : List (List Int)) (w : World) (hc : RdT w vc C) (hu : RdM w vu U) (hn : C.length ≤ 1048576) :
    Calls Try.prog 70 #[.agg #[vc, vu]] w fun e w' => e = .returned (.bool (decide (goodRec C U))) ∧ Below w.heap.size w w' := by
  have RC := hide hc
  have RU := hide hu
  obtain ⟨ac, cc, rfl, _, hcm, _, _⟩ := hc
  obtain ⟨au, cu, rfl, _, hum, _⟩ := hu
  have hlc : C.length ≤ maxLen := by omega
  have hlu : U.length ≤ maxLen := by omega
  unfold maxLen at hlc hlu
  clear hcm hum
  have F1 : Hid (Boxed2 ((w.alloc (.cells #[.slice ac C.length cc, .slice au U.length cu] 27)).alloc (.cells #[.func (.func 125) #[] #[.pointer (some ⟨w.heap.size, 0, none⟩)]] 79)) w.heap.size 27 (.slice ac C.length cc) (.slice au U.length cu)) := boxed2_alloc (boxed2_new w _ _ _) _
  have F2 : Hid (Boxed ((w.alloc (.cells #[.slice ac C.length cc, .slice au U.length cu] 27)).alloc (.cells #[.func (.func 125) #[] #[.pointer (some ⟨w.heap.size, 0, none⟩)]] 79)) (w.heap.size + 1) 79 (.func (.func 125) #[] #[.pointer (some ⟨w.heap.size, 0, none⟩)])) := by
    have := Boxed.new (w.alloc (.cells #[.slice ac C.length cc, .slice au U.length cu] 27)) 79 (.func (.func 125) #[] #[.pointer (some ⟨w.heap.size, 0, none⟩)])
    rwa [World.size_alloc] at this
  have B0 : Hid (Below w.heap.size w ((w.alloc (.cells #[.slice ac C.length cc, .slice au U.length cu] 27)).alloc (.cells #[.func (.func 125) #[] #[.pointer (some ⟨w.heap.size, 0, none⟩)]] 79))) := ((Below.refl _ w).alloc (Nat.le_refl _) _).alloc (by simp) _
  have hen : ∀ args w, (callFunc 127 args).run Try.prog w = .ok (.enter 127 args) w := enters_of Try.func127 (by kernel_rfl) rfl
  have CK := hide (fun W h => allTexts_calls 127 chunkOk isChunk_calls hen (.slice ac C.length cc) C W h)
  generalize hgr : decide (goodRec C U) = y
  have HY := hide hgr
  clear hgr hen
  by_cases h8 : U.length ≤ 8
  case neg =>
    obtain rfl : y = false := by rw [← HY.out]; exact decide_eq_false (fun h => h8 h.1)
    have u : ¬ (U.length : Int) ≤ 8 := by omega
    have ub : decide ((U.length : Int) ≤ 8) = false := decide_eq_false u
    go_enter Try.func70, Try.ntmps70
    go_wp2
    go_ret
    exact ⟨rfl, B0.out⟩
  have u8 : (U.length : Int) ≤ 8 := by omega
  by_cases h600 : C.length ≤ 600
  case neg =>
    obtain rfl : y = false := by rw [← HY.out]; exact decide_eq_false (fun h => h600 h.2.1)
    have u : ¬ (C.length : Int) ≤ 600 := by omega
    have ub : decide ((C.length : Int) ≤ 600) = false := decide_eq_false u
    go_enter Try.func70, Try.ntmps70
    go_wp2
    go_ret
    exact ⟨rfl, B0.out⟩
  have u6 : (C.length : Int) ≤ 600 := by omega
  go_enter Try.func70, Try.ntmps70
  go_wp2_with fail
  refine (CK.out _ (RC.out.below B0.out)).mono ?_
  rintro e w1 ⟨rfl, rfl⟩
  by_cases hck : ∀ i, i < C.length → chunkOk (C.getD i ⟨#[]⟩)
  case neg =>
    rw [decide_eq_false hck]
    obtain rfl : y = false := by rw [← HY.out]; exact decide_eq_false (fun h => hck h.2.2.1)
    go_wp2
    go_ret
    exact ⟨rfl, B0.out⟩
  rw [decide_eq_true hck]
  have HCK := hide hck
  clear hck
  have f10 := F1.out.c0
  have f11 := F1.out.c1
  have RC1 := hide (RC.out.below B0.out)
  have RU1 := hide (RU.out.below B0.out)
  have f20 := F2.out.cell
  have hsz : ((w.alloc (.cells #[.slice ac C.length cc, .slice au U.length cu] 27)).alloc (.cells #[.func (.func 125) #[] #[.pointer (some ⟨w.heap.size, 0, none⟩)]] 79)).heap.size = w.heap.size + 2 := by simp
  generalize (w.alloc (.cells #[.slice ac C.length cc, .slice au U.length cu] 27)).alloc (.cells #[.func (.func 125) #[] #[.pointer (some ⟨w.heap.size, 0, none⟩)]] 79) = w0 at F1 F2 B0 f10 f11 f20 RC1 RU1 hsz ⊢
  go_wp2_with fail
  refine (areUnlikeTexts_calls _ C _ RC1.out hn).mono ?_
  rintro e w2 ⟨rfl, b2⟩
  by_cases hun : unlike9 C
  case neg =>
    rw [decide_eq_false hun]
    obtain rfl : y = false := by rw [← HY.out]; exact decide_eq_false (fun h => hun h.2.2.2.1)
    have B2 := hide (B0.out.trans (b2.mono B0.out.size))
    clear b2
    go_wp2
    go_ret
    exact ⟨rfl, B2.out⟩
  rw [decide_eq_true hun]
  have HUN := hide hun
  have B2 := hide (B0.out.trans (b2.mono B0.out.size))
  have g10 : w2.cell? ⟨w.heap.size, 0, none⟩ = some (.slice ac C.length cc) := (b2.cell (p := ⟨w.heap.size, 0, none⟩) (by show w.heap.size < _; omega)).trans f10
  have g11 : w2.cell? ⟨w.heap.size, 1, none⟩ = some (.slice au U.length cu) := (b2.cell (p := ⟨w.heap.size, 1, none⟩) (by show w.heap.size < _; omega)).trans f11
  have g20 : w2.cell? ⟨w.heap.size + 1, 0, none⟩ = some (.func (.func 125) #[] #[.pointer (some ⟨w.heap.size, 0, none⟩)]) := (b2.cell (p := ⟨w.heap.size + 1, 0, none⟩) (by show w.heap.size + 1 < _; omega)).trans f20
  have RU2 := hide (RU1.out.below b2)
  have G := hide (And.intro g10 g20)
  have e5 : Hid (decide (∀ i, i < U.length → useOk C.length (U.getD i [])) = y) := by
    show _ = _
    rw [← HY.out]
    exact decide_eq_decide.2 ⟨fun h => ⟨h8, h600, HCK.out, HUN.out, h⟩, fun h => h.2.2.2.2⟩
  clear hun b2 f10 f11 f20 g20 RC1 RU1 F1 F2
  go_wp2_with fail
  refine (allUse_calls _ U w.heap.size (w.heap.size + 1) ac C.length cc _ RU2.out G.out.1 G.out.2).mono ?_
  rintro e w3 ⟨rfl, rfl⟩
  rw [e5.out]
  go_wp2
  go_ret
  exact ⟨rfl, B2.out⟩

def pick9 (C : List ByteArray) (xs : List Int) : List ByteArray := xs.map fun n => C.getD n.toNat ⟨#[]⟩
set_option maxRecDepth 100000 in
theorem chunkOf_calls (x : Int) (B : Nat) (vc : Value) (C : List ByteArray) (w : World) (hB : w.cell? ⟨B, 0, none⟩ = some vc) (hc : RdT w vc C) (h : thereOk C.length x) :
    Calls Try.prog 72 #[.int .i64 x, .pointer (some ⟨B, 0, none⟩)] w fun e w' => e = .returned (.string (C.getD x.toNat ⟨#[]⟩)) ∧ w = w' := by
  obtain ⟨n, rfl⟩ := Int.eq_ofNat_of_zero_le h.1
  obtain ⟨ac, cc, rfl, _, _, _, h3⟩ := hc
  have hn : n < C.length := by have := h.2; omega
  rcases h3 with h3 | ⟨b, off, rfl, hbs, hcs⟩
  · subst h3; simp at hn
  have hc1 := hcs n hn
  rw [Int.toNat_natCast]
  generalize C.getD n ⟨#[]⟩ = z at hc1 ⊢
  have hn' : (n : Int) < (C.length : Int) := by omega
  clear hcs h
  go_enter Try.func72, Try.ntmps72
  go_wp2
  go_ret
  exact ⟨rfl, rfl⟩
end Go.Proofs.Ythmijjcddjlebaa

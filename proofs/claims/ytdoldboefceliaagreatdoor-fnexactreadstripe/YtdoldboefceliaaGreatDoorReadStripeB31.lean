/-
  Unlike numbers drawn, and matrices: the model's draws, call by call. Each contract says what it asks. Pieces drawn: the model's draws of lists of pieces, call by call. Each contract says what it asks. A number put to its place, once: the model's function, call by call. No condition. Pieces decoded: the program's function and its model's, call by call. Each contract says what it asks: the pieces are lists of elements. UpdatePiece: the program's function, at all arguments. The program's table of rests must hold its seven numbers. UpdatePiece: the program's function and its model's, at all arguments. The program's table of rests must hold its seven numbers where the program's own function is called. UpdatePiece as the two public functions answer it, at all arguments. The program's table of rests must hold its seven numbers where the program's own function is called.
-/
import Derived.Test.YtdoldboefceliaaGreatDoorReadStripeB30
import Derived.Test.YtdoldboefceliaaGreatDoorReadStripeB18
import Derived.Test.YtdoldboefceliaaGreatDoorReadStripeB27
import Derived.Test.YtdoldboefceliaaGreatDoorReadStripeB23
import Derived.Test.YtdoldboefceliaaGreatDoorReadStripeB25
import Derived.Test.YtdoldboefceliaaGreatDoorReadStripeB29
namespace Go.Proofs.YtdoldboefceliaaGreatDoor
open Go.RowKit

theorem pigeon : ∀ (m : Nat) (L : List Int) (f : Nat → Int), L.length ≤ m → (∀ i j, i ≤ m → j ≤ m → i ≠ j → f i ≠ f j) → ∃ d, d ≤ m ∧ L.contains (f d) = false := by
  intro m
  induction m with
  | zero =>
    intro L f hl _
    have : L = [] := List.eq_nil_of_length_eq_zero (by omega)
    subst this
    exact ⟨0, Nat.le_refl _, rfl⟩
  | succ m ih =>
    intro L f hl hi
    cases hc : L.contains (f (m + 1)) with
    | false => exact ⟨m + 1, Nat.le_refl _, hc⟩
    | true =>
      have hm : f (m + 1) ∈ L := by simpa using hc
      obtain ⟨d, hd, h⟩ := ih (L.erase (f (m + 1))) f (by rw [List.length_erase_of_mem hm]; omega) (fun i j h1 h2 => hi i j (by omega) (by omega))
      refine ⟨d, by omega, ?_⟩
      have hne : f d ≠ f (m + 1) := hi d (m + 1) (by omega) (Nat.le_refl _) (by omega)
      cases hc2 : L.contains (f d) with
      | false => rfl
      | true =>
        have h3 : f d ∈ L := by simpa using hc2
        have h4 : f d ∈ L.erase (f (m + 1)) := (List.mem_erase_of_ne hne).2 h3
        rw [List.contains_eq_mem, decide_eq_false_iff_not] at h
        exact absurd h4 h
/-- The first place from j on that holds. -/
def fstAt (p : Nat → Bool) : Nat → Nat → Nat
  | 0, j => j
  | f + 1, j => if p j = true then j else fstAt p f (j + 1)
theorem fstAt_le {p : Nat → Bool} : ∀ f j d, j ≤ d → p d = true → fstAt p f j ≤ d := by
  intro f
  induction f with
  | zero => intro j d h _; exact h
  | succ f ih =>
    intro j d h hp
    rw [fstAt]
    split
    · exact h
    · rename_i hj
      exact ih (j + 1) d (by rcases Nat.lt_or_eq_of_le h with h | h; omega; rw [h] at hj; exact absurd hp hj) hp
theorem fstAt_true {p : Nat → Bool} : ∀ f j d, j ≤ d → d < j + f → p d = true → p (fstAt p f j) = true := by
  intro f
  induction f with
  | zero => intro j d h1 h2; omega
  | succ f ih =>
    intro j d h1 h2 hp
    rw [fstAt]
    split
    · rename_i h; exact h
    · rename_i hj
      exact ih (j + 1) d (by rcases Nat.lt_or_eq_of_le h1 with h | h; omega; rw [h] at hj; exact absurd hp hj) (by omega) hp
/-- How many numbers from x on are in the list, one behind the other, round 256. -/
def ahead (xs : List Int) (x : Nat) : Nat := fstAt (fun d => !xs.contains ((((x + d) % 256 : Nat)) : Int)) 300 0
theorem ahead_free (xs : List Int) (x : Nat) (hl : xs.length ≤ 16) : ∃ d, d ≤ 16 ∧ (!xs.contains ((((x + d) % 256 : Nat)) : Int)) = true := by
  obtain ⟨d, hd, h⟩ := pigeon 16 xs (fun d => (((x + d) % 256 : Nat) : Int)) hl (fun i j hi hj hij => by omega)
  exact ⟨d, hd, by rw [h]; rfl⟩
theorem ahead_le (xs : List Int) (x : Nat) (hl : xs.length ≤ 16) : ahead xs x ≤ 16 := by
  obtain ⟨d, hd, h⟩ := ahead_free xs x hl
  have := fstAt_le (p := fun d => !xs.contains ((((x + d) % 256 : Nat)) : Int)) 300 0 d (Nat.zero_le _) h
  unfold ahead
  omega
theorem ahead_step {xs : List Int} {x : Nat} (hl : xs.length ≤ 16) (hx : x < 256) (h : xs.contains ((x : Nat) : Int) = true) : ahead xs ((x + 1) % 256) < ahead xs x := by
  obtain ⟨d, hd, hf⟩ := ahead_free xs x hl
  have ht := fstAt_true (p := fun d => !xs.contains ((((x + d) % 256 : Nat)) : Int)) 300 0 d (Nat.zero_le _) (by omega) hf
  have e : fstAt (fun d => !xs.contains ((((x + d) % 256 : Nat)) : Int)) 300 0 = ahead xs x := rfl
  rw [e] at ht
  have h0 : ahead xs x ≠ 0 := by
    intro h0
    rw [h0] at ht
    have : (x + 0) % 256 = x := by omega
    simp only [this, h, Bool.not_true] at ht
    cases ht
  have := fstAt_le (p := fun d => !xs.contains (((((x + 1) % 256 + d) % 256 : Nat)) : Int)) 300 0 (ahead xs x - 1) (Nat.zero_le _) (by
    have e2 : ((x + 1) % 256 + (ahead xs x - 1)) % 256 = (x + ahead xs x) % 256 := by omega
    simp only [e2]
    exact ht)
  unfold ahead at this h0 ⊢
  omega

theorem own_chg {w w' : World} {base g : Nat} {v : Value} {xs : List Int} (h : Own w base v xs) (hg : w.grownBy w' (some g)) (hb : g < base) : Own w' base v xs := own_keep h hg hb
theorem grown_chg {w w' : World} {g : Nat} (hg : w.grownBy w' (some g)) : Chg g (g + 1) w w' := Chg.ofGrown hg (fun k hk => by cases hk; omega)
theorem mat_single {w : World} {B : Nat} {u : Value} {r : List Int} (h : Own w B u r) (hB : B ≤ w.heap.size) :
    MatV (w.alloc (.cells #[u] 27)) B (w.heap.size + 1) (.slice (some ⟨w.heap.size, 0, none⟩) 1 1) [u] [r] := by
  have ho : (w.alloc (.cells #[u] 27)).ownsRow B 27 1 (.slice (some ⟨w.heap.size, 0, none⟩) 1 1) 1 [u] := World.ownsRow_lit w #[u] 1 hB (by unfold maxLen; omega) (by rfl)
  have hO : Own (w.alloc (.cells #[u] 27)) B u r := h.below ((Below.refl _ _).alloc (Nat.le_refl _) _)
  refine ⟨rfl, ho, fun i hi => ?_, fun k hk => ?_, fun i k hi hk => ?_, fun i j hi hj hij => ?_⟩
  · simp at hi
    subst hi
    exact hO
  · simp [Value.ownBlock] at hk
    omega
  · simp at hi
    subst hi
    have := (World.ownsRow.lt h k hk).2
    omega
  · simp at hi hj
    omega

theorem CurS.kept {w w' : World} {g k : Nat} {cv : Value} (h : CurS w g cv k) (hb : Below w.heap.size w w') (hrb : ∀ w2, w'.grownBy w2 (some g) → RdB w2 cv) : CurS w' g cv k := by
  obtain ⟨n, s, hn, hh⟩ := h.at_
  exact ⟨⟨n, s, hn, (hb.block g (Array.getElem?_eq_some_iff.1 hh).1).trans hh⟩, hrb⟩
theorem own_cut {w : World} {lo n c h2 : Nat} {a : Option Addr} {r : List Int} (h : Own w lo (.slice a n c) r) (hh : h2 ≤ r.length) : Own w lo (.slice a h2 c) (r.take h2) := by
  have hl : (r.take h2).length = h2 := by simp; omega
  refine ⟨by simp, ?_⟩
  rcases h.2 with ⟨h1, h0⟩ | ⟨g, cap, cur, h1, hb, hg, hc, hm, hs, ht⟩
  · simp only [Value.slice.injEq] at h1
    obtain ⟨rfl, rfl, rfl⟩ := h1
    have : h2 = 0 := by omega
    subst this
    exact .inl ⟨rfl, by simp⟩
  · simp only [Value.slice.injEq] at h1
    obtain ⟨rfl, rfl, rfl⟩ := h1
    refine .inr ⟨g, c, cur, by rw [hl], hb, hg, by rw [hl]; omega, hm, hs, ?_⟩
    rw [hl]
    have := congrArg (List.take h2) ht
    rw [Nat.mul_one] at this ⊢
    rw [List.take_take, Nat.min_eq_left hh] at this
    rw [this, List.map_take]
theorem MatV.cut0 {w : World} {lo hi g n cap h2 : Nat} {vs : List Value} {m : List (List Int)} (h : MatV w lo hi (.slice (some ⟨g, 0, none⟩) n cap) vs m) (h0 : 0 < m.length) {a : Option Addr} {k c : Nat} (hv : vs.getD 0 nilRow = .slice a k c) (hh : h2 ≤ (m.getD 0 []).length) :
    MatV (w.setCell ⟨g, 0, none⟩ (.slice a h2 c)) lo hi (.slice (some ⟨g, 0, none⟩) n cap) (vs.set 0 (.slice a h2 c)) (m.set 0 ((m.getD 0 []).take h2)) ∧ w.grownBy (w.setCell ⟨g, 0, none⟩ (.slice a h2 c)) (some g) := by
  have hl : 0 < vs.length := by rw [h.len]; exact h0
  obtain rfl := h.lenEq
  have st := World.ownsRow.stored h.head 0 (.slice a h2 c)
  have hr := h.row 0 h0
  rw [hv] at hr
  have hcut := own_cut hr hh
  have hob : (Value.slice a h2 c).ownBlock = (Value.slice a k c).ownBlock := by cases a <;> rfl
  have gd : ∀ j, (vs.set 0 (.slice a h2 c)).getD j nilRow = if j = 0 then .slice a h2 c else vs.getD j nilRow := fun j => getD_set _ _ _ _ _ hl
  have ob : ∀ j, ((vs.set 0 (.slice a h2 c)).getD j nilRow).ownBlock = (vs.getD j nilRow).ownBlock := by
    intro j
    rw [gd]
    split
    · rename_i e; rw [e, hv, hob]
    · rfl
  refine ⟨⟨by rw [List.length_set, List.length_set]; exact h.len, by rw [List.length_set]; exact st.1, fun j hj => ?_, h.top, fun j b hj hb => ?_, fun i j hi hj hij => ?_⟩, st.2⟩
  · rw [List.length_set] at hj
    rw [gd, getD_set _ _ _ _ _ h0]
    split
    · exact World.ownsRow.kept hcut st.2 (heads_apart' h.head hcut)
    · exact World.ownsRow.kept (h.row j hj) st.2 (heads_apart' h.head (h.row j hj))
  · rw [List.length_set] at hj
    rw [ob] at hb
    exact h.tops j b hj hb
  · rw [List.length_set] at hi hj
    rw [ob, ob]
    exact h.apart i j hi hj hij
end Go.Proofs.YtdoldboefceliaaGreatDoor

namespace Go.Proofs.YtdoldboefceliaaGreatDoor
open Go.RowKit

set_option maxRecDepth 100000 in
set_option maxHeartbeats 800000 in
theorem amongIn_calls (g : Nat) (cv v : Value) (xs : List Int) (k : Nat) (w : World) (h : CurS w g cv k) (hk : k ≤ 1000000000) (hr : ∀ w', w.grownBy w' (some g) → Rd w' v xs) (h0 : 1 ≤ xs.length) (hl : xs.length ≤ 200) :
    Calls Tryz.prog 66 #[.pointer (some ⟨g, 0, none⟩), v] w fun e w' => ∃ (z : Int) (i : Nat), i < xs.length ∧ z = xs.getD i 0 ∧ e = .returned (.int .i64 z) ∧ CurS w' g cv (k + 2) ∧ w.grownBy w' (some g) := by
  have H := hide h
  have R := hide hr
  have hr0 := hr w (World.grownBy.refl _ _)
  obtain ⟨a, cap, rfl, _, _, _⟩ := hr0
  clear h hr
  go_enter Tryz.func66, Tryz.ntmps66
  go_wp2_with fail
  refine (pick_calls g cv k xs.length _ H.out hk h0 (by omega)).mono ?_
  rintro e w1 ⟨r1, hr1, rfl, hc1, hg1⟩
  have C1 := hide hc1
  have G1 := hide hg1
  obtain ⟨a', cap', hv, _, _, h3⟩ := R.out w1 hg1
  have hv2 : a' = a := by simp at hv; exact hv.1.symm
  subst hv2
  clear hv hc1 hg1 H
  rcases h3 with h3 | ⟨b, off, rfl, hbs, hc⟩
  · subst h3; simp at h0
  have hcell := hc r1 hr1
  obtain ⟨z, hz⟩ : ∃ z, z = xs.getD r1 0 := ⟨_, rfl⟩
  rw [← hz] at hcell
  have HZ := hide hz
  clear hz hc
  have t : (r1 : Int) < (xs.length : Int) := by omega
  go_wp2
  go_ret
  exact ⟨z, r1, hr1, HZ.out, rfl, C1.out, G1.out⟩

end Go.Proofs.YtdoldboefceliaaGreatDoor

namespace Go.Proofs.YtdoldboefceliaaGreatDoor
open Go.RowKit

theorem rd_take2 {w : World} {a : Option Addr} {n cap : Nat} {xs : List Int} (h : Rd w (.slice a n cap) xs) (i : Nat) (hi : i ≤ xs.length) : Rd w (.slice a i cap) (xs.take i) := by
  obtain ⟨a', cap', hv, h1, h2, h3⟩ := h
  simp only [Value.slice.injEq] at hv
  obtain ⟨rfl, rfl, rfl⟩ := hv
  have hl : (xs.take i).length = i := by simp; omega
  refine ⟨a, cap, by rw [hl], by rw [hl]; omega, h2, ?_⟩
  rcases h3 with h3 | ⟨b, off, rfl, hlt, hc⟩
  · subst h3; exact .inl (by simp)
  · refine .inr ⟨b, off, rfl, hlt, fun j hj => ?_⟩
    rw [hl] at hj
    rw [hc j (by omega)]
    simp [List.getD_eq_getElem?_getD, hj]
theorem rd_drop2 {w : World} {b off n cap : Nat} {xs : List Int} (h : Rd w (.slice (some ⟨b, off, none⟩) n cap) xs) (p : Nat) (hp : p < xs.length) : Rd w (.slice (some ⟨b, off + p, none⟩) (n - p) (cap - p)) (xs.drop p) := by
  obtain ⟨a', cap', hv, h1, h2, h3⟩ := h
  simp only [Value.slice.injEq] at hv
  obtain ⟨rfl, rfl, rfl⟩ := hv
  have hl : (xs.drop p).length = xs.length - p := List.length_drop
  refine ⟨_, cap - p, by rw [hl], by rw [hl]; omega, ⟨by have := h2.1; omega, fun h => by cases h⟩, ?_⟩
  rcases h3 with h3 | ⟨b', off', he, hlt, hc⟩
  · subst h3; simp at hp
  · simp only [Option.some.injEq, Addr.mk.injEq, and_true] at he
    obtain ⟨rfl, rfl⟩ := he
    refine .inr ⟨b, off + p, rfl, hlt, fun i hi => ?_⟩
    rw [hl] at hi
    have := hc (p + i) (by omega)
    rw [← Nat.add_assoc] at this
    rw [this]
    simp [List.getD_eq_getElem?_getD]

theorem results_four {fn : Func} {t u v x : Tmp} (h : fn.results = #[.tmp t, .tmp u, .tmp v, .tmp x]) (tmps : Array Value) (P : Program) (w : World) :
    (results fn tmps).run P w = .ok (.tuple #[tmps.getD t undef, tmps.getD u undef, tmps.getD v undef, tmps.getD x undef]) w := by
  simp [results, h]
theorem results_five {fn : Func} {t u v x y : Tmp} (h : fn.results = #[.tmp t, .tmp u, .tmp v, .tmp x, .tmp y]) (tmps : Array Value) (P : Program) (w : World) :
    (results fn tmps).run P w = .ok (.tuple #[tmps.getD t undef, tmps.getD u undef, tmps.getD v undef, tmps.getD x undef, tmps.getD y undef]) w := by
  simp [results, h]
theorem put_low {xs : List Int} {n : Int} (hx : ∀ y ∈ xs, 0 ≤ y) (hn : 0 ≤ n) (i j : Nat) : ∀ y ∈ xs.take i ++ n :: xs.drop j, 0 ≤ y := by
  intro y hy
  simp only [List.mem_append, List.mem_cons] at hy
  rcases hy with h | rfl | h
  · exact hx y (List.mem_of_mem_take h)
  · exact hn
  · exact hx y (List.mem_of_mem_drop h)
theorem put_low0 {xs : List Int} {n : Int} (hx : ∀ y ∈ xs, 0 ≤ y) (hn : 0 ≤ n) : ∀ y ∈ xs ++ [n], 0 ≤ y := by
  intro y hy
  simp only [List.mem_append, List.mem_singleton] at hy
  rcases hy with h | rfl
  · exact hx y h
  · exact hn
/-- A list of at most so many numbers and one more. -/
def PutR (w : World) (v : Value) (n B : Nat) : Prop := ∃ ys, Rd w v ys ∧ (ys.length ≤ n + 1 ∧ ∀ y ∈ ys, 0 ≤ y) ∧ ∀ b, v.ownBlock = some b → B ≤ b
theorem rd_far {w w' : World} {v : Value} {xs : List Int} {g : Nat} (h : Rd w v xs) (hg : w.grownBy w' (some g)) (hv : ∀ b, v.ownBlock = some b → b ≠ g) : Rd w' v xs := by
  obtain ⟨a, cap, rfl, h1, h2, h3⟩ := h
  refine ⟨a, cap, rfl, h1, h2, ?_⟩
  rcases h3 with h3 | ⟨b, off, rfl, hlt, hc⟩
  · exact .inl h3
  · refine .inr ⟨b, off, rfl, Nat.lt_of_lt_of_le hlt hg.size, fun i hi => ?_⟩
    rw [← hc i hi]
    unfold World.cell?
    rw [hg.block b hlt (fun e => hv b rfl (by simpa using e))]
end Go.Proofs.YtdoldboefceliaaGreatDoor

namespace Go.Proofs.YtdoldboefceliaaGreatDoor
open Go.RowKit
open Gf (ci nat ciM Sh AllLt invTo solN selM codeN those rowL identN elOk)

theorem sel_el {m : List (List Int)} (h : m.all (fun r : List Int => r.all elOk) = true) {f : List Nat} (hf : ∀ k ∈ f, k < m.length) : (selM m f).all (fun r : List Int => r.all elOk) = true := by
  rw [List.all_eq_true] at h ⊢
  intro r hr
  obtain ⟨k, hk, rfl⟩ := List.mem_map.1 hr
  have hl := hf k hk
  rw [List.getD_eq_getElem?_getD, List.getElem?_eq_getElem hl]
  exact h _ (List.getElem_mem hl)
theorem dec_no {d q : Int} {m : List (List Int)} {xs : List Int} (h : decOk d q m xs = false) : decR d q m xs = ([], false) := by
  unfold decR
  rw [h]
  rfl
theorem those_short (p : Nat → Bool) (n : Nat) : (those p n).length ≤ n := by have := Gf.those_not p n; omega

set_option maxRecDepth 100000 in
set_option maxHeartbeats 3200000 in
theorem decodePieces_calls (d q : Int) (v xv : Value) (m : List (List Int)) (xs : List Int) (w : World) (hT : Gf.Tab w) (h : RdM w v m) (hx : Rd w xv xs) (hel : m.all (fun r : List Int => r.all elOk) = true) :
    Calls Tryz.prog 100 #[.int .i64 d, .int .i64 q, v, xv] w fun e w' => ∃ v', e = .returned (.tuple #[v', .bool (decR d q m xs).2]) ∧ Mat w' w.heap.size w'.heap.size v' (decR d q m xs).1 ∧ Below w.heap.size w w' := by
  have R := hide h
  have X := hide hx
  have T := hide hT
  have EL := hide hel
  have hpc : piecesOk m = asLongOk m := by unfold piecesOk; rw [hel, Bool.and_true]
  have PC := hide hpc
  clear hT hel hpc
  cases hc : ((canR d q xs).1 && (canR d q xs).2) with
  | false =>
    have e : decR d q m xs = ([], false) := dec_no (by unfold decOk; rw [hc]; rfl)
    rw [e]
    clear e
    obtain ⟨a, cap, rfl, _⟩ := h
    obtain ⟨xa, xc, rfl, _⟩ := hx
    obtain ⟨c1, hc1⟩ : ∃ c, c = (canR d q xs).1 := ⟨_, rfl⟩
    obtain ⟨c2, hc2⟩ : ∃ c, c = (canR d q xs).2 := ⟨_, rfl⟩
    rw [← hc1, ← hc2] at hc
    have C1 := hide hc1
    have C2 := hide hc2
    clear hc1 hc2
    cases c1 with
    | false =>
      go_enter Tryz.func100, Tryz.ntmps100
      go_wp2_with fail
      refine (canDecode_calls d q _ xs _ X.out).mono ?_
      rw [← C1.out, ← C2.out]
      rintro e w1 ⟨rfl, b⟩
      have B := hide b
      clear b
      go_wp2
      go_ret2
      exact ⟨_, rfl, Mat.nil _ _ _, B.out⟩
    | true =>
      cases c2 with
      | true => cases hc
      | false =>
        go_enter Tryz.func100, Tryz.ntmps100
        go_wp2_with fail
        refine (canDecode_calls d q _ xs _ X.out).mono ?_
        rw [← C1.out, ← C2.out]
        rintro e w1 ⟨rfl, b⟩
        have B := hide b
        clear b
        go_wp2
        go_ret2
        exact ⟨_, rfl, Mat.nil _ _ _, B.out⟩
  | true =>
    rw [Bool.and_eq_true] at hc
    obtain ⟨hc1, hc2⟩ := hc
    have C1 := hide hc1
    have C2 := hide hc2
    have hcan : codeOk d q = true := by
      cases e : codeOk d q with
      | true => rfl
      | false => simp [canR, canOk, e] at hc2
    obtain ⟨f1, f2, f3, f4⟩ := codeOk_facts hcan
    obtain ⟨D, rfl⟩ := Int.eq_ofNat_of_zero_le (show 0 ≤ d by omega)
    obtain ⟨Q, rfl⟩ := Int.eq_ofNat_of_zero_le (show 0 ≤ q by omega)
    clear hcan
    by_cases hml : m.length = D + Q
    case neg =>
      have e : decR D Q m xs = ([], false) := dec_no (by unfold decOk; rw [hc1, hc2, decide_eq_false (by omega)]; rfl)
      rw [e]
      clear e hc1 hc2
      obtain ⟨a, cap, rfl, _⟩ := h
      obtain ⟨xa, xc, rfl, _⟩ := hx
      have t1 : ((m.length : Int) != (D : Int) + (Q : Int)) = true := by simp; omega
      have t2 : ¬ (m.length : Int) = (D : Int) + (Q : Int) := by omega
      go_enter Tryz.func100, Tryz.ntmps100
      go_wp2_with fail
      refine (canDecode_calls D Q _ xs _ X.out).mono ?_
      rw [C1.out, C2.out]
      rintro e w1 ⟨rfl, b⟩
      have B := hide b
      clear b
      go_wp2
      go_ret2
      exact ⟨_, rfl, Mat.nil _ _ _, B.out⟩
    obtain ⟨N, hN⟩ : ∃ N, N = D + Q := ⟨_, rfl⟩
    have hmN : m.length = N := by omega
    have MN := hide hmN
    have t1 : ((N : Int) != (D : Int) + (Q : Int)) = false := by simp; omega
    have t2 : (N : Int) = (D : Int) + (Q : Int) := by omega
    have HN := hide hN
    have T2 := hide t2
    obtain ⟨a, cap, hv, _⟩ := h
    rw [hmN] at hv
    subst hv
    obtain ⟨xa, xc, rfl, _⟩ := hx
    have hN10 : N ≤ 10 := by omega
    cases hal : asLongOk m with
    | false =>
      have e : decR D Q m xs = ([], false) := dec_no (by unfold decOk; rw [PC.out, hal, Bool.and_false, Bool.and_false])
      rw [e]
      have AL := hide hal
      clear e hc1 hc2 hal hN t2 hmN hml
      go_enter Tryz.func100, Tryz.ntmps100
      go_wp2_with fail
      refine (canDecode_calls D Q _ xs _ X.out).mono ?_
      rw [C1.out, C2.out]
      rintro e w1 ⟨rfl, b⟩
      have B := hide b
      clear b
      go_wp2_with fail
      refine (areAsLong_calls _ m _ (R.out.below B.out)).mono ?_
      rw [AL.out]
      rintro e w2 ⟨rfl, b⟩
      have B2 := hide (B.out.trans (b.mono B.out.size))
      clear b
      go_wp2
      go_ret2
      exact ⟨_, rfl, Mat.nil _ _ _, B2.out⟩
    | true =>
      have hok : decOk D Q m xs = true := by unfold decOk; rw [hc1, hc2, PC.out, hal, decide_eq_true (by omega)]; rfl
      obtain ⟨D', Q', hD', hQ', hF⟩ := dec_open hok
      obtain rfl : D = D' := by omega
      obtain rfl : Q = Q' := by omega
      have e : decR D Q m xs = (decM D Q m xs, true) := by unfold decR; rw [if_pos hok, Int.toNat_natCast, Int.toNat_natCast]
      rw [e]
      obtain ⟨l, hl⟩ : ∃ l, l = (m.getD 0 []).length := ⟨_, rfl⟩
      rw [← hl] at hF
      have FF := hide hF
      have AL := hide hal
      have l32 := hF.l32
      have hxl : xs.length ≤ Q := hF.xl
      have hkl : D ≤ (those (kp xs) N).length := by rw [hN]; exact kept_length xs D Q hxl
      have hks := those_short (kp xs) N
      have KM : Hid (∀ k ∈ those (kp xs) N, k < m.length) := fun k hk => by rw [MN.out]; exact (Gf.those_mem.1 hk).1
      have RI : Hid (risesM xs (N : Int) = true) := by show _ = _; rw [HN.out]; exact hF.ris
      have FK : Hid ((those (kp xs) N).take D = firstF xs D Q) := by show _ = _; rw [HN.out]; rfl
      have FM : Hid (∀ k ∈ firstF xs D Q, k < D + Q) := fun k hk => (firstF_mem hk).1
      have FL : Hid ((firstF xs D Q).length = D) := firstF_length xs D Q hxl
      clear e hc1 hc2 hal hN t2 hmN hml hok hF hD' hQ' hl
      go_enter Tryz.func100, Tryz.ntmps100
      go_wp2_with fail
      refine (canDecode_calls D Q _ xs _ X.out).mono ?_
      rw [C1.out, C2.out]
      rintro e w1 ⟨rfl, b⟩
      have B1 := hide b
      clear b
      go_wp2_with fail
      refine (areAsLong_calls _ m _ (R.out.below B1.out)).mono ?_
      rw [AL.out]
      rintro e w2 ⟨rfl, b⟩
      have B2 := hide (B1.out.trans (b.mono B1.out.size))
      clear b B1
      go_wp2_with fail
      refine (notLost_calls N _ xs _ (X.out.below B2.out) RI.out (by omega) (by have := HN.out; omega)).mono ?_
      rintro e w3 ⟨kv, rfl, ok, b⟩
      have B3 := hide (B2.out.trans (b.mono B2.out.size))
      have K3 := hide ok.rd
      clear b ok B2
      go_wp2_with fail
      refine (rowsAt_calls _ _ m (those (kp xs) N) _ (R.out.below B3.out) K3.out (by omega) KM.out).mono ?_
      rintro e w4 ⟨v4, rfl, r4, b⟩
      have B4 := hide (B3.out.trans (b.mono B3.out.size))
      have K4 := hide (K3.out.below b)
      have R4 := hide r4
      clear b r4 B3 K3
      go_wp2_with fail
      refine (allEls_calls _ _ _ R4.out).mono ?_
      rw [sel_el EL.out KM.out]
      rintro e w5 ⟨rfl, rfl⟩
      obtain ⟨ka, kc, hkv, hk1, _⟩ := K4.out
      rw [Gf.ci_length] at hkv hk1
      subst hkv
      have i1 : (D : Int) ≤ (kc : Int) := by omega
      have K5 : Hid (Rd w4 (.slice ka D kc) (ci (firstF xs D Q))) := by
        have := rd_take2 K4.out D (by rw [Gf.ci_length]; exact hkl)
        rw [← FK.out]
        unfold ci at this ⊢
        rw [List.map_take]
        exact this
      clear R4 K4 hk1
      go_wp2_with fail
      refine (codeRows_calls D Q _ (Gf.Tab.below T.out B4.out) (by omega) (by omega) (by omega) (by omega)).mono ?_
      rintro e w6 ⟨v6, rfl, m6, b⟩
      have B6 := hide (B4.out.trans (b.mono B4.out.size))
      have K6 := hide (K5.out.below b)
      have R6 := hide m6.rd
      clear b m6 B4 K5
      go_wp2_with fail
      refine (rowsAt_calls _ _ (codeM D Q) (firstF xs D Q) _ R6.out K6.out (by rw [FL.out]; omega) (fun k hk => by rw [codeM_length]; exact FM.out k hk)).mono ?_
      rintro e w7 ⟨v7, rfl, r7, b⟩
      have B7 := hide (B6.out.trans (b.mono B6.out.size))
      have K7 := hide (K6.out.below b)
      have R7 : Hid (RdM w7 v7 (ciM (selM (codeN D Q) (firstF xs D Q)))) := by rw [← code_ciM, sel_ciM] at r7; exact r7
      clear b r7 B6 K6 R6
      go_wp2_with fail
      refine (rowsAt_calls _ _ m (firstF xs D Q) _ (R.out.below B7.out) K7.out (by rw [FL.out]; omega) (fun k hk => by rw [MN.out, HN.out]; exact FM.out k hk)).mono ?_
      rintro e w8 ⟨v8, rfl, r8, b⟩
      have B8 := hide (B7.out.trans (b.mono B7.out.size))
      have R8 : Hid (RdM w8 v8 (ciM (selM (m.map nat) (firstF xs D Q)))) := by
        rw [← sel_ciM, ciM_natM fun i hi => (piecesOk_at FF.out.ok i hi).2.2]; exact r8
      have R78 := hide (R7.out.below b)
      clear b r8 B7 K7 R7
      have SOL : Hid (Calls Tryz.prog 156 #[v7, v8] w8 fun e w' => ∃ v', e = .returned (.tuple #[v', .bool true]) ∧ Mat w' w8.heap.size w'.heap.size v' (ciM (decX D Q m xs)) ∧ Below w8.heap.size w8 w') := by
        have hs := FF.out.sol.1
        by_cases hl0 : l = 0
        · have sr := FF.out.shR
          rw [hl0] at sr
          have := solveRows0_calls v7 v8 _ _ D w8 (Gf.Tab.below T.out B8.out) R78.out R8.out FF.out.shA.1 sr (by omega) (by omega)
          rw [hs] at this
          exact this
        · have := solveRows_calls v7 v8 _ _ D l w8 (Gf.Tab.below T.out B8.out) R78.out R8.out FF.out.shA.1 FF.out.shR (by omega) (by omega) (by omega) (by omega)
          rw [hs] at this
          exact this
      go_wp2_with fail
      refine SOL.out.mono ?_
      rintro e w9 ⟨v9, rfl, m9, b⟩
      have B9 := hide (B8.out.trans (b.mono B8.out.size))
      have R9 := hide m9.rd
      have XL : Hid ((ciM (decX D Q m xs)).length = D) := by show _ = _; rw [Gf.ciM_length, FF.out.shX.len]
      clear b m9 B8 SOL R78 R8
      go_wp2_with fail
      refine (encode_calls _ (ciM (decX D Q m xs)) Q _ (Gf.Tab.below T.out B9.out) R9.out FF.out.okX (by rw [XL.out]; omega) (by rw [XL.out]; omega) (by omega) (by omega)).mono ?_
      rw [XL.out]
      rintro e w10 ⟨v10, rfl, m10, b⟩
      have B10 := hide (B9.out.trans (b.mono B9.out.size))
      have M10 := hide (m10.wider B9.out.size (Nat.le_refl _))
      clear b m10 B9
      go_wp2
      go_ret2
      exact ⟨_, rfl, M10.out, B10.out⟩

theorem kp_has (xs : List Int) (k : Nat) : kp xs k = !xs.contains (k : Int) := by
  unfold kp
  rw [List.contains_eq_mem]
  by_cases h : (k : Int) ∈ xs <;> simp [h]
theorem first_of {xs : List Int} {D Q k : Nat} (hxl : xs.length ≤ Q) (hk : k ≤ D + Q) (hl : (those (kp xs) k).length ≤ D) (h : k = D + Q ∨ (those (kp xs) k).length = D) : those (kp xs) k = firstF xs D Q := by
  have hd := kept_length xs D Q hxl
  rcases h with h | h
  · subst h
    unfold firstF
    rw [List.take_of_length_le hl]
  · obtain ⟨r, hr⟩ := Gf.those_prefix (kp xs) k (D + Q - k)
    rw [show k + (D + Q - k) = D + Q by omega] at hr
    unfold firstF
    rw [hr, List.take_append_of_le_length (by omega), List.take_of_length_le (by omega)]

set_option maxRecDepth 100000 in
set_option maxHeartbeats 3200000 in
theorem l3Decode_calls (D Q l : Nat) (v xv : Value) (m : List (List Int)) (xs : List Int) (w : World) (h : RdM w v m) (hx : Rd w xv xs) (hF : DecF D Q l m xs) :
    Calls Tryz.prog 94 #[.int .i64 D, .int .i64 Q, v, xv] w fun e w' => ∃ v', e = .returned v' ∧ Mat w' w.heap.size w'.heap.size v' (decM D Q m xs) ∧ Below w.heap.size w w' := by
  have R := hide h
  have X := hide hx
  have FF := hide hF
  have d1 := hF.d1
  have d6 := hF.d6
  have q1 := hF.q1
  have q4 := hF.q4
  have l32 := hF.l32
  have hxl := hF.xl
  obtain ⟨a, cap, rfl, _⟩ := h
  obtain ⟨xa, xc, rfl, _⟩ := hx
  have FM : Hid (∀ k ∈ firstF xs D Q, k < D + Q) := fun k hk => (firstF_mem hk).1
  have FL : Hid ((firstF xs D Q).length = D) := firstF_length xs D Q hxl
  clear hF
  go_enter Tryz.func94, Tryz.ntmps94
  go_wp2
  go_loopw [9, 10] (fun vt vi wr => ∃ k : Nat, k ≤ D + Q ∧ vi = .int .i64 k ∧ (those (kp xs) k).length ≤ D ∧ Own wr w.heap.size vt (ci (those (kp xs) k)) ∧ Below w.heap.size w wr) (fun _ vi _ => D + Q - (intOf vi).toNat)
  case atStart => exact ⟨0, Nat.zero_le _, rfl, Nat.zero_le _, World.ownsRow_nil _ _ _ _, Below.refl _ _⟩
  case round =>
    obtain ⟨k, hk, rfl, htl, ho, hb⟩ := hrel
    have O := hide ho
    have B := hide hb
    obtain ⟨ta, tc, hvt, _⟩ := ho.rd
    rw [Gf.ci_length] at hvt
    subst hvt
    obtain ⟨t, ht⟩ : ∃ t, t = (those (kp xs) k).length := ⟨_, rfl⟩
    rw [← ht] at htl O ⊢
    have HT := hide ht
    clear ho hb ht
    by_cases hlt : k < D + Q ∧ t < D
    · obtain ⟨h1, h2⟩ := hlt
      have h1' : (k : Int) < (D : Int) + (Q : Int) := by omega
      have h2' : (t : Int) < (D : Int) := by omega
      obtain ⟨c, hc⟩ : ∃ c, c = xs.contains (k : Int) := ⟨_, rfl⟩
      have HC := hide hc
      cases c with
      | true =>
        have NX : Hid (those (kp xs) (k + 1) = those (kp xs) k) := by
          show _ = _
          rw [Gf.those_succ, kp_has, ← HC.out]
          simp
        clear hc
        go_wp2_with fail
        refine (l1HasM_calls _ xs (k : Int) _ (X.out.below B.out)).mono ?_
        rw [← HC.out]
        rintro e w1 ⟨rfl, rfl⟩
        go_wp2
        go_roundw
        case rel => exact ⟨k + 1, by omega, by go_num, by rw [NX.out, ← HT.out]; exact htl, by rw [NX.out]; exact O.out, B.out⟩
        case measure => simp [intOf]; omega
      | false =>
        have NX : Hid (ci (those (kp xs) (k + 1)) = ci (those (kp xs) k) ++ [(k : Int)]) := by
          show _ = _
          rw [Gf.those_succ, kp_has, ← HC.out, Bool.not_false, if_pos rfl, ci_app]
          rfl
        have NL : Hid ((those (kp xs) (k + 1)).length ≤ D) := by
          show _ ≤ _
          rw [Gf.those_succ, kp_has, ← HC.out, Bool.not_false, if_pos rfl, List.length_append, ← HT.out, List.length_singleton]
          omega
        have O2 := hide (O.out.alloc (.cells #[.int .i64 (k : Int)] 3))
        have CL : Hid ((ci (those (kp xs) k)).length = t) := by show _ = _; rw [Gf.ci_length, ← HT.out]
        clear hc
        go_wp2_with fail
        refine (l1HasM_calls _ xs (k : Int) _ (X.out.below B.out)).mono ?_
        rw [← HC.out]
        rintro e w1 ⟨rfl, rfl⟩
        go_wp2_with (at_builtin; refine wpList_append_rd rfl (.tmp 30) (.tmp 32) rfl w.heap.size _ (ci (those (kp xs) k)).length (ci (those (kp xs) k)) [(k : Int)] rfl O2.out _ rfl rd_single (by rw [CL.out]; simp; omega) (by have := B.out.size; simp; omega) ?_)
        intro v' w5 ho5 hg5
        have low : ∀ i, (Value.slice ta t tc).ownBlock = some i → w.heap.size ≤ i := fun i hi => (O.out.lt i hi).1
        have B5 := hide ((B.out.alloc B.out.size _).grown hg5 (by have := B.out.size; simp; omega) low)
        have O6 := hide ho5
        clear ho5 hg5 low
        go_wp2
        go_roundw
        case rel => exact ⟨k + 1, by omega, by go_num, NL.out, by rw [NX.out]; exact O6.out, B5.out⟩
        case measure => simp [intOf]; omega
    · have TF : Hid (those (kp xs) k = firstF xs D Q) := first_of hxl hk (by rw [← HT.out]; exact htl) (by rw [← HT.out]; omega)
      have K1 : Hid (Rd wr (.slice ta t tc) (ci (firstF xs D Q))) := by rw [← TF.out]; exact O.out.rd
      have htD : t = D := by rw [HT.out, TF.out, FL.out]
      subst htD
      clear O HT TF
      by_cases hkk : (k : Int) < (t : Int) + (Q : Int)
      all_goals
        go_wp2_with fail
        refine (l3Matrix_calls t Q _ (by omega) (by omega) (by omega) (by omega)).mono ?_
        rintro e w2 ⟨v2, rfl, m2, b⟩
        have B2 := hide (B.out.trans (b.mono B.out.size))
        have K2 := hide (K1.out.below b)
        have R2 := hide m2.rd
        clear b m2
        go_wp2_with fail
        refine (l2Rows_calls _ _ (ci (firstF xs t Q)) (codeM t Q) _ K2.out R2.out (by rw [Gf.ci_length, FL.out]; omega) (fun i hi => by rw [Gf.ci_length] at hi; rw [Gf.ci_getD, codeM_length]; have := FM.out ((firstF xs t Q).getD i 0) (by rw [List.getD_eq_getElem?_getD, List.getElem?_eq_getElem hi]; exact List.getElem_mem hi); omega) (fun i => by
          by_cases hi : i < (codeM t Q).length
          · rw [(codeM_rows t Q i hi).1]; omega
          · rw [List.getD_eq_getElem?_getD, List.getElem?_eq_none (by omega)]; simp)).mono ?_
        rw [pick_sel]
        rintro e w3 ⟨v3, rfl, m3, b⟩
        have B3 := hide (B2.out.trans (b.mono B2.out.size))
        have K3 := hide (K2.out.below b)
        have R3 : Hid (RdM w3 v3 (ciM (selM (codeN t Q) (firstF xs t Q)))) := by have := m3.rd; rw [← code_ciM, sel_ciM] at this; exact this
        clear b m3 B2 K2 R2
        go_wp2_with fail
        refine (l2Invert_calls _ _ (selM (codeN t Q) (firstF xs t Q)) t _ R3.out rfl FF.out.shA.1 (by omega) (by omega)).mono ?_
        rw [FF.out.shA.2]
        rintro e w4 ⟨v4, rfl, m4, b⟩
        have B4 := hide (B3.out.trans (b.mono B3.out.size))
        have K4 := hide (K3.out.below b)
        have R4 := hide m4.rd
        clear b m4 B3 K3 R3
        go_wp2_with fail
        refine (l2Rows_calls _ _ (ci (firstF xs t Q)) m _ K4.out (R.out.below B4.out) (by rw [Gf.ci_length, FL.out]; omega) (fun i hi => by rw [Gf.ci_length] at hi; rw [Gf.ci_getD, FF.out.ml]; have := FM.out ((firstF xs t Q).getD i 0) (by rw [List.getD_eq_getElem?_getD, List.getElem?_eq_getElem hi]; exact List.getElem_mem hi); omega) (fun i => by
          by_cases hi : i < m.length
          · have := (piecesOk_at FF.out.ok i hi).2.1; omega
          · rw [List.getD_eq_getElem?_getD, List.getElem?_eq_none (by omega)]; simp)).mono ?_
        rw [pick_sel]
        rintro e w5 ⟨v5, rfl, m5, b⟩
        have B5 := hide (B4.out.trans (b.mono B4.out.size))
        have R45 := hide (R4.out.below b)
        have R5 : Hid (RdM w5 v5 (ciM (selM (m.map nat) (firstF xs t Q)))) := by
          rw [← sel_ciM, ciM_natM fun i hi => (piecesOk_at FF.out.ok i hi).2.2]; exact m5.rd
        have IS := hide (sol_sh FF.out.shA.1 (Gf.sh_ident t) FF.out.shA.2)
        have FI : Hid (Fit (ciM (solN (selM (codeN t Q) (firstF xs t Q)) (identN t)).1) (ciM (selM (m.map nat) (firstF xs t Q))) l) := by
          have s1 := IS.out
          have s2 := FF.out.shR
          refine ⟨?_, ?_, ?_, ?_, by omega, fun i hi => ?_, fun i hi => ?_⟩
          · rw [Gf.ciM_length, s1.len]; omega
          · rw [Gf.ciM_length, s1.len]; omega
          · rw [Gf.ciM_length, s2.len]; omega
          · rw [Gf.ciM_length, s2.len]; omega
          · rw [Gf.ciM_length, s1.len] at hi
            rw [Gf.ciM_get, Gf.ci_length, s1.row i hi, Gf.ciM_length, s2.len]
            exact ⟨rfl, elOk_lt (s1.lt i hi)⟩
          · rw [Gf.ciM_length, s2.len] at hi
            rw [Gf.ciM_get, Gf.ci_length, s2.row i hi]
            exact ⟨rfl, elOk_lt (s2.lt i hi)⟩
        have ME : Hid (mulM (ciM (solN (selM (codeN t Q) (firstF xs t Q)) (identN t)).1) (ciM (selM (m.map nat) (firstF xs t Q))) = ciM (decX t Q m xs)) := by
          show _ = _
          rw [mul_row IS.out FF.out.shR (by omega), FF.out.sol.2]
        clear b m5 B4 K4 R4
        go_wp2_with fail
        refine (l3Times_calls _ _ _ _ l _ R45.out R5.out FI.out).mono ?_
        rw [ME.out]
        rintro e w6 ⟨v6, rfl, m6, b⟩
        have B6 := hide (B5.out.trans (b.mono B5.out.size))
        have R6 := hide m6.rd
        have XL : Hid ((ciM (decX t Q m xs)).length = t) := by show _ = _; rw [Gf.ciM_length, FF.out.shX.len]
        clear b m6 B5 R45 R5 FI ME IS
        go_wp2_with fail
        refine (l3Encode_calls _ (ciM (decX t Q m xs)) Q _ R6.out FF.out.okX (by rw [XL.out]; omega) (by rw [XL.out]; omega) (by omega) (by omega)).mono ?_
        rw [XL.out]
        rintro e w7 ⟨v7, rfl, m7, b⟩
        have B7 := hide (B6.out.trans (b.mono B6.out.size))
        have M7 := hide (m7.wider B6.out.size (Nat.le_refl _))
        clear b m7 B6 R6
        go_wp2
        go_ret
        exact ⟨_, rfl, M7.out, B7.out⟩
end Go.Proofs.YtdoldboefceliaaGreatDoor

namespace Go.Proofs.YtdoldboefceliaaGreatDoor
open Go.RowKit
open Gf (ci nat amTo AllLt addRow)

def ovTo (U m : List (List Int)) (j : Nat) : List (List Int) := U.take j ++ m.drop j
theorem ovTo_length {U m : List (List Int)} (h : U.length = m.length) (j : Nat) : (ovTo U m j).length = m.length := by simp [ovTo]; omega
theorem ovTo_zero (U m : List (List Int)) : ovTo U m 0 = m := by simp [ovTo]
theorem ovTo_end {U m : List (List Int)} (h : U.length = m.length) : ovTo U m m.length = U := by simp [ovTo, ← h]
theorem ovTo_get {U m : List (List Int)} (h : U.length = m.length) (j : Nat) (hj : j < m.length) : (ovTo U m j).getD j [] = m.getD j [] := by
  unfold ovTo
  rw [getD_app, List.length_take, if_neg (by omega)]
  have : j - min j U.length = 0 := by omega
  rw [this]
  simp [List.getD_eq_getElem?_getD]
theorem ovTo_step {U m : List (List Int)} (h : U.length = m.length) (j : Nat) (hj : j < m.length) : (ovTo U m j).set j (U.getD j []) = ovTo U m (j + 1) := by
  have e1 : (U.take j).length = j := by rw [List.length_take]; omega
  unfold ovTo
  rw [List.set_append_right _ _ (by omega), e1, Nat.sub_self, List.drop_eq_getElem_cons hj, List.set_cons_zero, take_snocM U [] j (by omega), List.append_assoc]
  rfl
theorem addRow_one {s q : List Nat} (hs : AllLt s) (hq : AllLt q) (hl : s.length = q.length) : addRow s q 1 = addRow q s 1 := by
  unfold addRow
  apply List.ext_getElem
  · simp [hl]
  · intro i h1 h2
    simp only [List.length_zipWith] at h1
    have a1 := hs i
    have a2 := hq i
    rw [List.getD_eq_getElem?_getD, List.getElem?_eq_getElem (by omega), Option.getD_some] at a1 a2
    simp only [List.getElem_zipWith]
    rw [Gf.one_mul _ a1, Gf.one_mul _ a2, Nat.xor_comm]

/-- What a piece changes by. -/
def difN (m : List (List Int)) (K : Nat) (p : List Int) : List Nat := addRow (nat p) (nat (m.getD K [])) 1
def facN (D Q K i : Nat) : Nat := (nat ((codeM D Q).getD i [])).getD K 0
def updRow (D Q K : Nat) (m : List (List Int)) (p : List Int) (i : Nat) : List Int := ci (amTo (nat (m.getD i [])) (difN m K p) (facN D Q K i) 0 (difN m K p).length)
def updM (D Q K : Nat) (m : List (List Int)) (p : List Int) : List (List Int) := (List.range m.length).map (updRow D Q K m p)
theorem updM_length (D Q K : Nat) (m : List (List Int)) (p : List Int) : (updM D Q K m p).length = m.length := by simp [updM]
theorem updM_get (D Q K : Nat) (m : List (List Int)) (p : List Int) (i : Nat) (h : i < m.length) : (updM D Q K m p).getD i [] = updRow D Q K m p i := by simp [updM, h]
def updOk (d q : Int) (m : List (List Int)) (k : Int) (p : List Int) : Bool := chkOk d q m && (decide (0 ≤ k ∧ k < d) && (decide (p.length = (m.getD 0 []).length) && p.all Gf.elOk))
def updR (d q : Int) (m : List (List Int)) (k : Int) (p : List Int) : List (List Int) × Bool := if updOk d q m k p = true then (updM d.toNat q.toNat k.toNat m p, true) else ([], false)
structure UpdF (D Q K l : Nat) (m : List (List Int)) (p : List Int) : Prop where
  d1 : 1 ≤ D
  d2 : D ≤ 6
  q1 : 1 ≤ Q
  q2 : Q ≤ 4
  k1 : K < D
  ml : m.length = D + Q
  ok : piecesOk m = true
  l0 : (m.getD 0 []).length = l
  pl : p.length = l
  pe : p.all Gf.elOk = true
theorem UpdF.row {D Q K l : Nat} {m : List (List Int)} {p : List Int} (h : UpdF D Q K l m p) (i : Nat) (hi : i < m.length) : (m.getD i []).length = l ∧ l ≤ 32 ∧ (m.getD i []).all Gf.elOk = true := by
  have := piecesOk_at h.ok i hi
  rw [h.l0] at this
  exact ⟨this.1, by omega, this.2.2⟩
theorem UpdF.dif {D Q K l : Nat} {m : List (List Int)} {p : List Int} (h : UpdF D Q K l m p) : (difN m K p).length = l ∧ AllLt (difN m K p) := by
  have hk := h.row K (by have := h.k1; have := h.ml; omega)
  refine ⟨?_, Gf.addRow_lt (Gf.nat_lt h.pe) (by omega)⟩
  unfold difN
  rw [Gf.addRow_length _ _ _ (by rw [Gf.nat_length, Gf.nat_length, hk.1, h.pl]), Gf.nat_length, h.pl]
theorem UpdF.fac {D Q K l : Nat} {m : List (List Int)} {p : List Int} (h : UpdF D Q K l m p) (i : Nat) (hi : i < m.length) : ((codeM D Q).getD i []).length = D ∧ facN D Q K i < 256 ∧ ((codeM D Q).getD i []).getD K 0 = ((facN D Q K i : Nat) : Int) := by
  have hr := codeM_rows D Q i (by rw [codeM_length, ← h.ml]; exact hi)
  refine ⟨hr.1, Gf.nat_lt hr.2 K, ?_⟩
  have := Gf.ci_getD (nat ((codeM D Q).getD i [])) K
  rw [Gf.ci_nat hr.2] at this
  exact this
theorem updR_tot (d q : Int) (m : List (List Int)) (k : Int) (p : List Int) : (updR d q m k p).1.length + tot (updR d q m k p).1 ≤ 1048576 := by
  unfold updR
  split
  · rename_i h
    simp only [updOk, Bool.and_eq_true] at h
    obtain ⟨c1, c2, c3⟩ := chkOk_facts h.1
    obtain ⟨f1, f2, f3, f4⟩ := codeOk_facts c1
    simp only []
    have hr : ∀ i, i < m.length → ((updM d.toNat q.toNat k.toNat m p).getD i []).length ≤ 32 := fun i hi => by
      rw [updM_get _ _ _ _ _ _ hi, updRow, Gf.ci_length, Gf.amTo_length, Gf.nat_length]
      exact (piecesOk_at c3 i hi).2.1
    have : ∀ j, j ≤ m.length → tot ((updM d.toNat q.toNat k.toNat m p).take j) ≤ 32 * j := by
      intro j
      induction j with
      | zero => intro _; simp [tot]
      | succ j ih =>
        intro hj
        rw [tot_take_succ _ j (by rw [updM_length]; omega)]
        have := ih (by omega)
        have := hr j (by omega)
        omega
    have := this m.length (Nat.le_refl _)
    rw [List.take_of_length_le (by rw [updM_length]; exact Nat.le_refl _)] at this
    rw [updM_length]
    omega
  · simp [tot]

end Go.Proofs.YtdoldboefceliaaGreatDoor

namespace Go.Proofs.YtdoldboefceliaaGreatDoor
open Go.RowKit
open Gf (ci nat amTo AllLt addRow)

end Go.Proofs.YtdoldboefceliaaGreatDoor

namespace Go.Proofs.YtdoldboefceliaaGreatDoor
open Go.RowKit

theorem updOk_parts {d q : Int} {m : List (List Int)} {k : Int} {p : List Int} (h : updOk d q m k p = true) :
    ∃ D Q K : Nat, d = D ∧ q = Q ∧ k = K ∧ UpdF D Q K (m.getD 0 []).length m p ∧ updR d q m k p = (updM D Q K m p, true) := by
  have h' := h
  simp only [updOk, Bool.and_eq_true, decide_eq_true_eq] at h
  obtain ⟨h1, h2, h3, h4⟩ := h
  obtain ⟨c1, c2, c3⟩ := chkOk_facts h1
  obtain ⟨f1, f2, f3, f4⟩ := codeOk_facts c1
  obtain ⟨D, rfl⟩ := Int.eq_ofNat_of_zero_le (show 0 ≤ d by omega)
  obtain ⟨Q, rfl⟩ := Int.eq_ofNat_of_zero_le (show 0 ≤ q by omega)
  obtain ⟨K, rfl⟩ := Int.eq_ofNat_of_zero_le h2.1
  refine ⟨D, Q, K, rfl, rfl, rfl, ⟨by omega, by omega, by omega, by omega, by omega, by omega, c3, rfl, h3, h4⟩, ?_⟩
  simp only [updR, if_pos h', Int.toNat_natCast]

end Go.Proofs.YtdoldboefceliaaGreatDoor

/-
  By how much a rule does not fit, and the shortest rule of syndromes: the program's functions, call by call. The program's table of rests must hold its seven numbers. A word put right at places: the program's putRight, call by call. The program's table of rests must hold its seven numbers. A multiple added to a list that is made longer where it must be, and the shortest rule of syndromes: the model's functions, call by call. No condition. A word put right at places: the model's l4Fix, call by call. No condition.
-/
import Derived.Test.YtogopakmebiomaaDoorWordsB3
import Derived.Test.YtogopakmebiomaaDoorWordsB8
import Derived.Test.YtogopakmebiomaaDoorWordsB4
import Derived.Test.YtogopakmebiomaaDoorWordsB11
import Derived.Test.YtogopakmebiomaaDoorWordsB7
namespace Go.Proofs.YtogopakmebiomaaDoor
open Go.RowKit
namespace Gf

theorem Rd.rowN {w : World} {a : Option Addr} {n cap : Nat} {s : List Nat} (h : Rd w (.slice a n cap) (ci s)) (i : Nat) (hi : i < s.length) :
    ∃ b off, a = some ⟨b, off, none⟩ ∧ w.cell? ⟨b, off + i, none⟩ = some (.int .i64 (s.getD i 0 : Nat)) := by
  obtain ⟨b, off, u, h1, h2, h3⟩ := Rd.row h i (by rw [ci_length]; exact hi)
  rw [ci_getD] at h3
  exact ⟨b, off, h1, by rw [h2, h3]⟩
set_option maxRecDepth 100000 in
set_option maxHeartbeats 800000 in
theorem missOf_calls (rv sv : Value) (c s : List Nat) (w : World) (hT : Tab w) (hr : Rd w rv (ci c)) (hs : Rd w sv (ci s)) (hc : AllLt c) (hsl : AllLt s) (hl : c.length ≤ s.length) (hm : s.length ≤ 64) :
    Calls Tryd.prog 83 #[rv, sv] w fun e w' => e = .returned (.int .i64 (dsc (fn c) (fn s) (s.length - 1) c.length : Nat)) ∧ w = w' := by
  have T := hide hT
  have R := hide hr
  have S := hide hs
  have CL := hide hc
  have SL := hide hsl
  obtain ⟨ra, rc, rfl, _, _, _⟩ := hr
  obtain ⟨sa, sc, rfl, _, _, _⟩ := hs
  simp only [ci_length]
  clear hT hc hsl
  go_enter Tryd.func83, Tryd.ntmps83
  go_wp2
  go_loop [5, 10] (fun vm vk => ∃ k : Nat, k ≤ c.length ∧ vk = .int .i64 k ∧ vm = .int .i64 (dsc (fn c) (fn s) (s.length - 1) k : Nat)) (fun _ vk => c.length - (intOf vk).toNat)
  case atStart => exact ⟨0, Nat.zero_le _, rfl, rfl⟩
  case round =>
    obtain ⟨k, hk, rfl, rfl⟩ := hrel
    by_cases hlt : k < c.length
    · have hlt' : (k : Int) < (c.length : Int) := by omega
      have e1 : ((s.length : Int) - 1 - (k : Int)).toNat = s.length - 1 - k := by omega
      have h01 : (0 : Int) ≤ (s.length : Int) - 1 - (k : Int) := by omega
      have h02 : (s.length : Int) - 1 - (k : Int) < (s.length : Int) := by omega
      obtain ⟨b1, o1, rfl, hc1⟩ := Rd.rowN R.out k hlt
      obtain ⟨b2, o2, rfl, hc2⟩ := Rd.rowN S.out (s.length - 1 - k) (by omega)
      obtain ⟨x, hx⟩ : ∃ x, x = c.getD k 0 := ⟨_, rfl⟩
      obtain ⟨y, hy⟩ : ∃ y, y = s.getD (s.length - 1 - k) 0 := ⟨_, rfl⟩
      have hx256 : x < 256 := by rw [hx]; exact CL.out k
      have hy256 : y < 256 := by rw [hy]; exact SL.out _
      have hd256 := dsc_lt (s := fn s) (k := s.length - 1) CL.out k
      obtain ⟨d, hd⟩ : ∃ d, d = dsc (fn c) (fn s) (s.length - 1) k := ⟨_, rfl⟩
      have D : Hid (dsc (fn c) (fn s) (s.length - 1) (k + 1) = d ^^^ mul x y) := by rw [hd, hx, hy]; rfl
      rw [← hx] at hc1
      rw [← hy] at hc2
      change dsc (fn c) (fn s) (s.length - 1) k < 256 at hd256
      rw [← hd] at hd256 ⊢
      have hm256 := mul_lt (a := x) (b := y) hx256
      clear hx hy hd
      go_wp2_with fail
      refine (mulE_calls _ _ _ T.out (by omega) (by omega) (by omega) (by omega)).mono ?_
      rintro e w' ⟨rfl, rfl⟩
      simp only [Int.toNat_natCast]
      go_wp2
      go_round
      case rel => exact ⟨k + 1, by omega, by go_num, by rw [D.out, i64_xor _ _ (by omega) (by omega)]⟩
      case measure => simp [intOf]; omega
    · obtain rfl : k = c.length := by omega
      go_wp2
      go_ret
      exact ⟨rfl, rfl⟩
def locOk (xs : List Int) : Bool := decide (xs.length = 2 ∨ xs.length = 4 ∨ xs.length = 6) && xs.all elOk
theorem locOk_yes {xs : List Int} (h : locOk xs = true) : (xs.length = 2 ∨ xs.length = 4 ∨ xs.length = 6) ∧ xs.all elOk = true := by
  simp only [locOk, Bool.and_eq_true, decide_eq_true_eq] at h
  exact h
theorem locOk_no {xs : List Int} (h : ¬ ((xs.length = 2 ∨ xs.length = 4 ∨ xs.length = 6) ∧ xs.all elOk = true)) : locOk xs = false := by
  cases hh : locOk xs with
  | false => rfl
  | true => exact absurd (locOk_yes hh) h
def locR (xs : List Int) : List Int × Bool := if locOk xs = true then (ci (locN (nat xs)), true) else ([], false)
theorem locR_yes {xs : List Int} (h : locOk xs = true) : locR xs = (ci (locN (nat xs)), true) := if_pos h
theorem locR_no {xs : List Int} (h : locOk xs = false) : locR xs = ([], false) := if_neg (by rw [h]; decide)
theorem locN_le {s : List Nat} (hs : AllLt s) : (locN s).length ≤ s.length + 1 := by
  have := (bm_inv hs s.length (Nat.le_refl _)).len
  unfold locN
  rw [cutNl_length]
  have h2 := cutN_le (ci (bmTo s s.length).c) (bmTo s s.length).c.length
  omega
theorem locR_len (xs : List Int) : (locR xs).1.length ≤ 1048576 := by
  unfold locR
  split
  next h =>
    obtain ⟨h1, h2⟩ := locOk_yes h
    have := locN_le (nat_ltp (fun c hc => elOk_iff.1 (List.all_eq_true.1 h2 c hc)))
    show (ci (locN (nat xs))).length ≤ _
    rw [ci_length]
    rw [nat_length] at this
    omega
  next => show 0 ≤ _; omega
theorem dsc_cut (c s : List Nat) {k j : Nat} (hj : j ≤ k + 1) : dsc (fn (c.take j)) (fn (s.take (k + 1))) k j = dsc (fn c) (fn s) k j := by
  have key : ∀ i, i ≤ j → dsc (fn (c.take j)) (fn (s.take (k + 1))) k i = dsc (fn c) (fn s) k i := by
    intro i
    induction i with
    | zero => intro _; rfl
    | succ i ih =>
      intro hi
      rw [dsc, dsc, ih (by omega)]
      have e1 : fn (c.take j) i = fn c i := by simp [fn, List.getD_eq_getElem?_getD, show i < j by omega]
      have e2 : fn (s.take (k + 1)) (k - i) = fn s (k - i) := by simp [fn, List.getD_eq_getElem?_getD, show k - i < k + 1 by omega]
      rw [e1, e2]
  exact key j (Nat.le_refl _)
theorem own_keep4 {w w' : World} {base g : Nat} {v : Value} {xs : List Int} (h : Own w base v xs) (hg : w.grownBy w' (some g)) (hb : g < base) : Own w' base v xs := by
  refine World.ownsRow.kept h hg ?_
  cases hv : v.ownBlock with
  | none => exact .inl rfl
  | some j =>
    right
    intro e
    have := (h.lt j hv).1
    simp at e
    omega

set_option maxRecDepth 100000 in
set_option maxHeartbeats 1600000 in
theorem locatorOf_no (v : Value) (xs : List Int) (w : World) (h : Rd w v xs) (hw : locOk xs = false) :
    Calls Tryd.prog 26 #[v] w fun e w' => e = .returned (.tuple #[.slice none 0 0, .bool false]) ∧ w = w' := by
  have R := hide h
  obtain ⟨a, cap, rfl, g1, g2, _⟩ := h
  have hm : xs.length ≤ maxLen := by omega
  unfold maxLen at hm
  clear g1 g2
  by_cases h1 : xs.length % 2 = 0
  case neg =>
    have t1 : ((xs.length : Int) % 2 != 0) = true := by simp; omega
    clear h1 hw
    go_enter Tryd.func26, Tryd.ntmps26
    go_wp2
    go_ret2
    exact ⟨rfl, rfl⟩
  have t1 : ((xs.length : Int) % 2 != 0) = false := by simp; omega
  by_cases h2 : 1 ≤ xs.length / 2 ∧ xs.length / 2 ≤ 3
  case neg =>
    have W : Hid (wOk ((xs.length : Int) / 2) = false) := wOk_no.2 (by omega)
    clear h1 hw h2
    go_enter Tryd.func26, Tryd.ntmps26
    go_wp2_with fail
    refine (isWrong_calls _ _).mono ?_
    rw [W.out]
    rintro e w' ⟨rfl, rfl⟩
    go_wp2
    go_ret2
    exact ⟨rfl, rfl⟩
  have W : Hid (wOk ((xs.length : Int) / 2) = true) := wOk_iff.2 (by omega)
  have h4 : xs.all elOk = false := by
    cases hh : xs.all elOk with
    | false => rfl
    | true =>
      exfalso
      simp only [locOk, hh, Bool.and_true, decide_eq_false_iff_not] at hw
      omega
  have E := hide h4
  clear h1 hw h2 h4
  go_enter Tryd.func26, Tryd.ntmps26
  go_wp2_with fail
  refine (isWrong_calls _ _).mono ?_
  rw [W.out]
  rintro e w' ⟨rfl, rfl⟩
  go_wp2_with fail
  refine (areElements_calls _ xs _ R.out).mono ?_
  rw [E.out]
  rintro e w' ⟨rfl, rfl⟩
  go_wp2
  go_ret2
  exact ⟨rfl, rfl⟩

set_option maxRecDepth 100000 in
set_option maxHeartbeats 6400000 in
theorem locatorOf_yes (v : Value) (xs : List Int) (w : World) (hT : Tab w) (h : Rd w v xs) (hw : locOk xs = true) :
    Calls Tryd.prog 26 #[v] w fun e w' => ∃ v', e = .returned (.tuple #[v', .bool true]) ∧ Own w' w.heap.size v' (ci (locN (nat xs))) ∧ Below w.heap.size w w' := by
  have T := hide hT
  have R := hide h
  obtain ⟨a, cap, rfl, hcap, _, _⟩ := h
  obtain ⟨hn, hal⟩ := locOk_yes hw
  have t1 : ((xs.length : Int) % 2 != 0) = false := by simp; omega
  have W : Hid (wOk ((xs.length : Int) / 2) = true) := wOk_iff.2 (by omega)
  have E := hide hal
  have n1 : 1 ≤ xs.length := by omega
  have n6 : xs.length ≤ 6 := by omega
  obtain ⟨s, hs⟩ : ∃ s, s = nat xs := ⟨_, rfl⟩
  have hsx : ci s = xs := by rw [hs]; exact ci_natp (fun c hc => elOk_iff.1 (List.all_eq_true.1 hal c hc))
  have hsl : AllLt s := by rw [hs]; exact nat_ltp (fun c hc => elOk_iff.1 (List.all_eq_true.1 hal c hc))
  have hslen : s.length = xs.length := by rw [hs, nat_length]
  obtain ⟨L, hL⟩ : ∃ L, L = locN (nat xs) := ⟨_, rfl⟩
  rw [← hL]
  have HL : Hid (cutNl (bmTo s xs.length).c = L) := by rw [hL, ← hs, ← hslen]; rfl
  have SX := hide hsx
  have SL := hide hsl
  have SLEN := hide hslen
  have INV : Hid (∀ k, k ≤ xs.length → BmI xs.length k (bmTo s k)) := fun k hk => by
    have := bm_inv hsl k (by rw [hslen]; exact hk)
    rwa [hslen] at this
  obtain ⟨sb, so, rfl⟩ : ∃ b off, a = some ⟨b, off, none⟩ := by
    obtain ⟨b, off, u, h1, _⟩ := R.out.row 0 (by omega)
    exact ⟨b, off, h1⟩
  clear hw hT hal hn hs hsx hsl hslen hL
  go_enter Tryd.func26, Tryd.ntmps26
  go_wp2_with fail
  refine (isWrong_calls _ _).mono ?_
  rw [W.out]
  rintro e w' ⟨rfl, rfl⟩
  go_wp2_with fail
  refine (areElements_calls _ xs _ R.out).mono ?_
  rw [E.out]
  rintro e w' ⟨rfl, rfl⟩
  obtain ⟨N, hN⟩ : ∃ N : Nat, N = xs.length + 1 := ⟨_, rfl⟩
  have HN3 : Hid ((xs.length : Int) + 1 = (N : Int)) := by show (xs.length : Int) + 1 = (N : Int); omega
  have HN := hide hN
  have nN : xs.length < N := by omega
  have nN7 : N ≤ 7 := by omega
  clear hN
  go_wp2_with (at_make; refine wpList_make_ints rfl _ _ rfl w.heap.size _ _ N rfl rfl HN3.out HN3.out (by omega) (Nat.le_refl _) ?_)
  intro w1 ho1 hg1
  obtain ⟨G, hG⟩ : ∃ G, G = w.heap.size := ⟨_, rfl⟩
  rw [← hG] at ho1 ⊢
  have hrow1 : w1.ownsRow w.heap.size 3 1 (.slice (some ⟨G, 0, none⟩) N N) N ((List.replicate N (0 : Int)).map (Value.int .i64)) := by
    have := ho1
    unfold Own at this
    rw [List.length_replicate, hG] at this
    rw [hG]
    exact this
  have hf1 : w1.frozen? ⟨G, 0, none⟩ = false := hrow1.frozenAt 0
  obtain ⟨old, hc1⟩ : ∃ old, w1.cell? ⟨G, 0, none⟩ = some old := by
    rw [hrow1.cellAt 0 (by omega)]
    exact ⟨_, List.getElem?_eq_getElem (by simp; omega)⟩
  have B1 := hide ((Below.refl w.heap.size w).grown hg1 (Nat.le_refl _) (fun k h => by cases h))
  have ST := hide (hrow1.stored 0 (.int .i64 1))
  have HG := hide hG
  have hlt1 : G < w1.heap.size := (hrow1.lt G rfl).2
  have i0 : (0 : Int) < (N : Int) := by omega
  clear ho1 hg1 hrow1 hG
  have START : Hid (Own ((w1.setCell ⟨G, 0, none⟩ (.int .i64 1)).alloc (.cells #[.int .i64 1] 3)) w.heap.size (.slice (some ⟨G, 0, none⟩) N N) (ci (bmTo s 0).c)) := by
    have h1 := ST.out.1
    have e : ((List.replicate N (0 : Int)).map (Value.int .i64)).set 0 (.int .i64 1) = (ci (bmTo s 0).c).map (Value.int .i64) := by
      rw [HN.out, bmTo, SLEN.out, List.replicate_succ]
      simp [ci]
    rw [e] at h1
    have h2 : Own (w1.setCell ⟨G, 0, none⟩ (.int .i64 1)) w.heap.size (.slice (some ⟨G, 0, none⟩) N N) (ci (bmTo s 0).c) := by
      show World.ownsRow _ _ _ _ _ (ci (bmTo s 0).c).length _
      rw [ci_length, (INV.out 0 (Nat.zero_le _)).len, ← HN.out]
      exact h1
    exact h2.alloc _
  have sz1 : (w1.setCell ⟨G, 0, none⟩ (.int .i64 1)).heap.size = w1.heap.size := by
    have := ST.out.2.size
    simp
  go_wp2
  go_loopw [6, 7, 8, 9, 37] (fun vo vl vm vg vk wr => ∃ (k : Nat) (q : Bm), k ≤ xs.length ∧ q = bmTo s k ∧ vk = .int .i64 k ∧ vl = .int .i64 (q.last : Nat) ∧ vm = .int .i64 (q.m : Nat) ∧ vg = .int .i64 (q.long : Nat) ∧ Own wr w.heap.size (.slice (some ⟨G, 0, none⟩) N N) (ci q.c) ∧ Own wr (G + 1) vo (ci q.b) ∧ Below w.heap.size w wr) (fun _ _ _ _ vk _ => xs.length - (intOf vk).toNat)
  case atStart =>
    refine ⟨0, bmTo s 0, Nat.zero_le _, rfl, rfl, rfl, rfl, rfl, START.out, ?_, ?_⟩
    · have := World.ownsRow_lit (base := G + 1) (e := 3) (size := 1) (w1.setCell ⟨G, 0, none⟩ (.int .i64 1)) #[.int .i64 1] 1 (by rw [sz1]; omega) (by decide) (by rfl)
      rw [sz1] at this
      exact this
    · exact (B1.out.setCell (by rw [HG.out]; exact Nat.le_refl _) _).alloc (by rw [sz1]; exact B1.out.size) _
  case round =>
    obtain ⟨k, q, hk, hq, rfl, rfl, rfl, rfl, hor, hoo, hb⟩ := hrel
    have OR := hide hor
    have OO := hide hoo
    have B := hide hb
    have Q := hide hq
    have IV : Hid (BmI xs.length k q) := by rw [hq]; exact INV.out k hk
    clear hor hoo hb hq
    by_cases hlt : k < xs.length
    · have hlt' : (k : Int) < (xs.length : Int) := by omega
      have hlk := IV.out.lk
      have hfit := IV.out.fit
      have hm1 := IV.out.m1
      have hlen := IV.out.len
      obtain ⟨E1, hE1⟩ : ∃ E : Nat, E = q.long + 1 := ⟨_, rfl⟩
      obtain ⟨E2, hE2⟩ : ∃ E : Nat, E = k + 1 := ⟨_, rfl⟩
      have ws1 : IntKind.i64.wrap ((q.long : Int) + 1) = (E1 : Int) := by rw [wrap_i64]; omega
      have ws2 : IntKind.i64.wrap ((k : Int) + 1) = (E2 : Int) := by rw [wrap_i64]; omega
      have f1 : (E1 : Int) ≤ (N : Int) := by omega
      have f2 : (E2 : Int) ≤ (cap : Int) := by omega
      have HE1 := hide hE1
      have HE2 := hide hE2
      obtain ⟨d, hd⟩ : ∃ d, d = bmD s k q := ⟨_, rfl⟩
      have hd256 : d < 256 := by rw [hd]; exact bmD_lt IV.out.cl
      have MO : Hid (∀ m, Calls Tryd.prog 83 #[.slice (some ⟨G, 0, none⟩) E1 N, .slice (some ⟨sb, so, none⟩) E2 cap] (wr.drewN m) fun e w' => e = .returned (.int .i64 (d : Nat)) ∧ wr.drewN m = w') := fun m => by
        have hr : Rd (wr.drewN m) (.slice (some ⟨G, 0, none⟩) E1 N) (ci (q.c.take E1)) := by
          have h1 := (OR.out.rd).below (below_drewN' m)
          have h2 := rd_takep (n := E1) (by
            have := h1
            rwa [show N = (ci q.c).length from by rw [ci_length, hlen, HN.out]] at this) (by rw [ci_length]; omega)
          rw [ci_take] at h2
          rwa [show (ci q.c).length = N from by rw [ci_length, hlen, HN.out]] at h2
        have hs2 : Rd (wr.drewN m) (.slice (some ⟨sb, so, none⟩) E2 cap) (ci (s.take E2)) := by
          have h1 := ((R.out.below B.out)).below (below_drewN' (w := wr) m)
          have h2 := rd_takep (n := E2) h1 (by omega)
          rw [← SX.out, ci_take] at h2
          exact h2
        have l1 : (q.c.take E1).length = E1 := by rw [List.length_take]; omega
        have l2 : (s.take E2).length = E2 := by rw [List.length_take, SLEN.out]; omega
        have := missOf_calls _ _ (q.c.take E1) (s.take E2) _ ((T.out.below B.out).below (below_drewN' m)) hr hs2 (AllLt.take IV.out.cl _) (AllLt.take SL.out _) (by omega) (by omega)
        have e : dsc (fn (q.c.take E1)) (fn (s.take E2)) ((s.take E2).length - 1) (q.c.take E1).length = d := by
          rw [l1, l2, hd, hE2, Nat.add_sub_cancel]
          unfold bmD
          rw [hE1]
          exact dsc_cut _ _ (by omega)
        rw [e] at this
        exact this
      have DD := hide hd
      clear hE1 hE2 hd
      go_wp2
      go_quiet ((go_at_call 83; exact quiet_same (MO.out _)))
      clear ws1 ws2 f1 f2
      by_cases hd0 : d = 0
      · have td : (((d : Nat) : Int) == 0) = true := by simp [hd0]
        have HD0 := hide hd0
        have hnx : bmTo s (k + 1) = ⟨q.c, q.b, q.last, q.m + 1, q.long⟩ := by
          rw [bmTo, ← Q.out]
          unfold bmStep
          rw [← DD.out, if_pos HD0.out]
        have NX := hide hnx
        clear hd0 hnx
        go_wp2
        go_roundw
        case rel =>
          refine ⟨k + 1, bmTo s (k + 1), by omega, rfl, by go_num, ?_, ?_, ?_, ?_, ?_, ?_⟩
          · rw [NX.out]
          · rw [NX.out]; go_num
          · rw [NX.out]
          · rw [NX.out]; exact OR.out.below (below_drewN' _)
          · rw [NX.out]; exact OO.out.below (below_drewN' _)
          · exact below_drewN B.out _
        case measure => simp [intOf]; omega
      · have td : (((d : Nat) : Int) == 0) = false := by simp [hd0]
        have HD0 := hide hd0
        clear hd0
        go_wp2_with fail
        refine (without_calls _ (ci q.c) _ (OR.out.rd.below (below_drewN' _)) (by rw [ci_length, hlen]; omega)).mono ?_
        rintro e w2 ⟨v2, rfl, ho2, hb2⟩
        have B2 := hide ((below_drewN B.out _).trans (hb2.mono (below_drewN B.out _).size))
        have OR2 := hide ((OR.out.below (below_drewN' _)).below hb2)
        have OO2 := hide ((OO.out.below (below_drewN' _)).below hb2)
        have hGw : G < wr.heap.size := (World.ownsRow.lt OR.out G rfl).2
        have OW2 : Hid (Own w2 (G + 1) v2 (ci (cutNl q.c))) := by
          have := ho2.mono (base' := G + 1) (by simp; omega)
          rw [cutL_nl] at this
          exact this
        have T2 := hide (T.out.below B2.out)
        clear ho2 hb2 OR OO B
        have hll := IV.out.ll
        go_wp2_with fail
        refine (inv_calls _ _ T2.out (by omega) (by omega)).mono ?_
        rintro e w' ⟨rfl, rfl⟩
        rw [Int.toNat_natCast]
        have hi := inv_lt q.last
        go_wp2_with fail
        refine (mulE_calls _ _ _ T2.out (by omega) (by omega) (by omega) (by omega)).mono ?_
        rintro e w' ⟨rfl, rfl⟩
        simp only [Int.toNat_natCast]
        obtain ⟨F, hF⟩ : ∃ F, F = mul d (inv q.last) := ⟨_, rfl⟩
        rw [← hF]
        have hF256 : F < 256 := by rw [hF]; exact mul_lt hd256
        have HC : Hid (amTo q.c q.b F q.m q.b.length = bmC s k q) := by rw [hF, DD.out]; rfl
        clear hF hi
        go_wp2_with fail
        refine (addMultiple_calls _ _ q.c q.b F q.m w.heap.size w2 (fun w' hg => T.out.below (B2.out.grown hg B2.out.size (fun i hi => by cases hi; rw [HG.out]; exact Nat.le_refl _))) OR2.out (fun w' hg => (own_keep4 OO2.out hg (Nat.lt_succ_self _)).rd) (by omega) (by omega) (by omega) (by omega) (by omega) IV.out.cl IV.out.bl (by omega)).mono ?_
        rintro e w3 ⟨rfl, ho3, hg3⟩
        simp only [Int.toNat_natCast] at ho3
        rw [HC.out] at ho3
        have OR3 := hide ho3
        have OO3 := hide (own_keep4 OO2.out hg3 (Nat.lt_succ_self _))
        have OW3 := hide (own_keep4 OW2.out hg3 (Nat.lt_succ_self _))
        have B3 := hide (B2.out.grown hg3 B2.out.size (fun i hi => by cases hi; rw [HG.out]; exact Nat.le_refl _))
        clear ho3 hg3 OR2 OO2 OW2 B2
        by_cases h2 : k < 2 * q.long
        · have h2' : (k : Int) < 2 * (q.long : Int) := by omega
          have NX : Hid (bmTo s (k + 1) = ⟨bmC s k q, q.b, q.last, q.m + 1, q.long⟩) := by
            rw [bmTo, ← Q.out]
            unfold bmStep
            rw [← DD.out, if_neg HD0.out, if_pos h2]
            exact hide rfl
          clear h2
          go_wp2
          go_roundw
          case rel =>
            refine ⟨k + 1, bmTo s (k + 1), by omega, rfl, by go_num, ?_, ?_, ?_, ?_, ?_, B3.out⟩
            · rw [NX.out]
            · rw [NX.out]; go_num
            · rw [NX.out]
            · rw [NX.out]; exact OR3.out
            · rw [NX.out]; exact OO3.out
          case measure => simp [intOf]; omega
        · have h2' : ¬ (k : Int) < 2 * (q.long : Int) := by omega
          have NX : Hid (bmTo s (k + 1) = ⟨bmC s k q, cutNl q.c, d, 1, k + 1 - q.long⟩) := by
            rw [bmTo, ← Q.out]
            unfold bmStep
            rw [← DD.out, if_neg HD0.out, if_neg h2]
            exact hide rfl
          clear h2
          go_wp2
          go_roundw
          case rel =>
            refine ⟨k + 1, bmTo s (k + 1), by omega, rfl, by go_num, ?_, ?_, ?_, ?_, ?_, B3.out⟩
            · rw [NX.out]
            · rw [NX.out]; rfl
            · rw [NX.out]; show _ = Value.int .i64 ((k + 1 - q.long : Nat) : Int); congr 1; omega
            · rw [NX.out]; exact OR3.out
            · rw [NX.out]; exact OW3.out
          case measure => simp [intOf]; omega
    · obtain rfl : k = xs.length := by omega
      go_wp2_with fail
      refine (without_calls _ (ci q.c) _ OR.out.rd (by rw [ci_length, IV.out.len]; omega)).mono ?_
      rintro e w2 ⟨v2, rfl, ho2, hb2⟩
      have O2 : Hid (Own w2 w.heap.size v2 (ci L)) := by
        have := ho2.mono (base' := w.heap.size) B.out.size
        rw [cutL_nl, Q.out, HL.out] at this
        exact this
      have B2 := hide (B.out.trans (hb2.mono B.out.size))
      clear ho2 hb2
      go_wp2
      go_ret2
      exact ⟨_, rfl, O2.out, B2.out⟩
theorem locatorOf_calls (v : Value) (xs : List Int) (w : World) (hT : Tab w) (h : Rd w v xs) :
    Calls Tryd.prog 26 #[v] w fun e w' => ∃ v', e = .returned (.tuple #[v', .bool (locR xs).2]) ∧ Own w' w.heap.size v' (locR xs).1 ∧ Below w.heap.size w w' := by
  cases hw : locOk xs with
  | false =>
    rw [locR_no hw]
    exact (locatorOf_no v xs w h hw).mono fun e w' ⟨he, hw⟩ => ⟨_, he, World.ownsRow_nil _ _ _ _, hw ▸ Below.refl _ _⟩
  | true =>
    rw [locR_yes hw]
    exact locatorOf_yes v xs w hT h hw
end Gf
end Go.Proofs.YtogopakmebiomaaDoor

namespace Go.Proofs.YtogopakmebiomaaDoor
open Go.RowKit
open Gf (ci nat ciM Sh AllLt)

set_option maxRecDepth 100000 in
set_option maxHeartbeats 6400000 in
theorem putRight_calls (xv pv sv : Value) (xs ps ss : List Int) (w : World) (hT : Gf.Tab w) (hx : Rd w xv xs) (hp : Rd w pv ps) (hs : Rd w sv ss) (ex : xs.all Gf.elOk = true) (es : ss.all Gf.elOk = true)
    (hok : PlOk ps) (hin : ∀ i, i < ps.length → ps.getD i 0 < (xs.length : Int)) (h1 : 1 ≤ ps.length) (h3 : ps.length ≤ 3) (hl : ps.length ≤ ss.length) (hxl : xs.length ≤ 24) :
    Calls Tryd.prog 92 #[xv, pv, sv] w fun e w' => ∃ v', e = .returned v' ∧ Own w' w.heap.size v' (fixW xs ps ss) ∧ Below w.heap.size w w' := by
  have T := hide hT
  have RX := hide hx
  have RP := hide hp
  have RS := hide hs
  have EX := hide ex
  have ES := hide es
  have OK := hide hok
  have IN := hide hin
  obtain ⟨xa, xc, rfl, _⟩ := hx
  obtain ⟨pa, pc, rfl, _⟩ := hp
  obtain ⟨sa, sc, rfl, hsc, _⟩ := hs
  obtain ⟨P, hP⟩ : ∃ P, P = vanM ps := ⟨_, rfl⟩
  have hPl : P.length = ps.length := by rw [hP, vanM_length]
  have hPg : ∀ k, k < ps.length → P.getD k [] = vanRow ps k := fun k hk => by rw [hP, vanM_get _ _ hk]
  have PL := hide hPl
  have PG := hide hPg
  have HP := hide hP
  obtain ⟨l, hll⟩ : ∃ l, l = ps.length := ⟨_, rfl⟩
  have HL := hide hll
  obtain ⟨res, hres⟩ : ∃ r, r = fixW xs ps ss := ⟨_, rfl⟩
  rw [← hres]
  have RES := hide hres
  clear hT ex es hok hin hP hPl hPg hll hres
  go_enter Tryd.func92, Tryd.ntmps92
  go_wp2_with fail
  refine (newRows_calls ps.length ps.length _ (by omega) (by omega)).mono ?_
  rintro e w3 ⟨v3, rfl, ⟨vs, hm⟩, hb3⟩
  have e0 : List.replicate ps.length (List.replicate ps.length (0 : Int)) = gTo P (List.replicate l 0) 0 := by rw [gTo_zero, PL.out, HL.out]
  rw [e0] at hm
  clear e0
  obtain ⟨g, cap, hv3, hg1, hg2, hg3, hg4⟩ := hm.open (by rw [gTo_length _ _ _ (Nat.zero_le _), PL.out]; omega)
  rw [gTo_length _ _ _ (Nat.zero_le _), PL.out] at hv3 hg3
  subst hv3
  have M3 := hide hm
  have B3 := hide hb3
  have S2 : 0 < w.heap.size := Gf.tab_pos T.out
  clear hm hb3
  go_wp2
  go_loopw [24] (fun vi wr => ∃ (k : Nat), k ≤ ps.length ∧ vi = .int .i64 k ∧ MatV wr w.heap.size w3.heap.size (.slice (some ⟨g, 0, none⟩) ps.length cap) vs (gTo P (List.replicate l 0) k) ∧ Chg w.heap.size w3.heap.size w3 wr) (fun vi _ => ps.length - (intOf vi).toNat)
  case atStart => exact ⟨0, Nat.zero_le _, rfl, M3.out, Chg.refl _ _ _⟩
  case round =>
    obtain ⟨k, hk, rfl, hM, hC⟩ := hrel
    by_cases hlt : k < ps.length
    · have hlt' : (k : Int) < (ps.length : Int) := by omega
      have BW := hide (B3.out.trans (hC.below (Nat.le_refl _) B3.out.size))
      obtain ⟨r, hr⟩ : ∃ r, r = vanRow ps k := ⟨_, rfl⟩
      have hrl : r.length = l := by rw [hr, vanRow_length, HL.out]
      have hrg : ∀ j, j < ps.length → r.getD j 0 = ((Gf.pow 2 ((ps.getD j 0).toNat * k) : Nat) : Int) := fun j hj => by rw [hr, vanRow_get _ _ _ hj]
      have hpg := PG.out k hlt
      rw [← hr] at hpg
      have hkl : k < (gTo P (List.replicate l 0) k).length := by rw [gTo_length _ _ _ (by rw [PL.out]; exact hk), PL.out]; exact hlt
      have hcu0 := hM.cell k hkl
      have hro0 := hM.row k hkl
      rw [gTo_get P (List.replicate l 0) k (by rw [PL.out]; exact hlt)] at hro0
      obtain ⟨u, huu⟩ : ∃ u, u = vs.getD k nilRow := ⟨_, rfl⟩
      rw [← huu] at hcu0 hro0
      obtain ⟨g', cap', hue, hq1, hq2, hq3, hq4⟩ := hro0.open1 (by rw [List.length_replicate, HL.out]; omega)
      rw [List.length_replicate, HL.out] at hue
      rw [hue] at hcu0 huu
      have UU := hide huu
      have M := hide hM
      have C := hide hC
      have PK := hide hpg
      have RL := hide hrl
      have RG := hide hrg
      have KL := hide hkl
      clear hM hC hpg hr hrl hrg hkl hro0 huu hue hq1 hq2 hq3 hq4
      go_wp2
      go_loopw [31] (fun vi wr2 => ∃ (j : Nat), j ≤ ps.length ∧ vi = .int .i64 j ∧ MatV wr2 w.heap.size w3.heap.size (.slice (some ⟨g, 0, none⟩) ps.length cap) vs ((gTo P (List.replicate l 0) k).set k (cpTo r j)) ∧ Chg w.heap.size w3.heap.size w3 wr2) (fun vi _ => ps.length - (intOf vi).toNat)
      case atStart =>
        refine ⟨0, Nat.zero_le _, rfl, ?_, C.out⟩
        have e := gTo_get P (List.replicate l 0) k (by rw [PL.out]; exact hlt)
        have e2 := set_same _ k [] KL.out
        rw [e] at e2
        rw [cpTo_zero, RL.out, e2]
        exact M.out
      case round =>
        obtain ⟨j, hj, rfl, hM2, hC2⟩ := hrel
        by_cases hltj : j < ps.length
        · have hltj' : (j : Int) < (ps.length : Int) := by omega
          have BW2 := hide (B3.out.trans (hC2.below (Nat.le_refl _) B3.out.size))
          obtain ⟨yb, yoff, yu, rfl, hyc, hyu⟩ := (RP.out.below BW2.out).row j hltj
          obtain ⟨y, hyy⟩ : ∃ y, y = ps.getD j 0 := ⟨_, rfl⟩
          rw [← hyy] at hyu
          subst hyu
          obtain ⟨ha, hb, _⟩ := OK.out j hltj
          rw [← hyy] at ha hb
          have hg := RG.out j hltj
          rw [← hyy] at hg
          obtain ⟨Y, rfl⟩ := Int.eq_ofNat_of_zero_le ha
          have hY : Y < 24 := by omega
          simp only [Int.toNat_natCast] at hg
          have hYk : Y * k ≤ 23 * 3 := Nat.mul_le_mul (by omega) (by omega)
          have hw : (Y : Int) * (k : Int) = ((Y * k : Nat) : Int) := by simp
          obtain ⟨z, hz⟩ : ∃ z, z = Gf.pow 2 (Y * k) := ⟨_, rfl⟩
          rw [← hz] at hg
          have CI : Hid (∀ w', Gf.Tab w' → Calls Tryd.prog 67 #[.int .i64 2, .int .i64 ((Y : Int) * (k : Int))] w' fun e w'' => e = .returned (.int .i64 ((z : Nat) : Int)) ∧ w' = w'') := by
            intro w' hT'
            rw [hw]
            obtain ⟨q, hq⟩ : ∃ q : Nat, q = Y * k := ⟨_, rfl⟩
            rw [← hq] at hz hYk ⊢
            clear hw hg
            refine (Gf.powE_calls 2 q w' hT' (by decide) (by decide) (by omega) (by omega)).mono ?_
            rintro e w'' ⟨rfl, rfl⟩
            refine ⟨?_, rfl⟩
            rw [Int.toNat_natCast]
            rw [show Gf.pow (Int.toNat 2) q = z from hz.symm]
          have hkl2 : k < ((gTo P (List.replicate l 0) k).set k (cpTo r j)).length := by rw [List.length_set]; exact KL.out
          have hro := hM2.row k hkl2
          rw [getD_set _ _ _ _ _ KL.out, if_pos rfl] at hro
          have hcl : (cpTo r j).length = l := by rw [cpTo_length r j (by rw [RL.out, HL.out]; exact hj), RL.out]
          rw [← UU.out] at hro
          obtain ⟨hf, hcell⟩ := hro.at j (by rw [hcl, HL.out]; exact hltj)
          obtain ⟨old, hold⟩ : ∃ o, o = (cpTo r j).getD j 0 := ⟨_, rfl⟩
          rw [← hold] at hcell
          have W := hide (hro.put j ((z : Nat) : Int))
          have hst : (cpTo r j).set j ((z : Nat) : Int) = cpTo r (j + 1) := by rw [← hg]; exact cpTo_step r j (by rw [RL.out, HL.out]; exact hltj)
          have ST := hide hst
          have M2 := hide hM2
          have C2 := hide hC2
          have TT := hide (Gf.Tab.below T.out BW2.out)
          have KL2 := hide hkl2
          clear hM2 hC2 hyy ha hb hg hz hkl2 hro hcl hold hst hw
          go_wp2_with fail
          refine (CI.out _ TT.out).mono ?_
          rintro e w' ⟨rfl, rfl⟩
          go_wp2
          go_roundw
          case rel =>
            have hww := W.out
            have hgg : wr.grownBy (wr.setCell ⟨g', j, none⟩ (.int .i64 ((z : Nat) : Int))) (vs.getD k nilRow).ownBlock := by
              rw [← UU.out]
              exact hww.2
            have ho : Own (wr.setCell ⟨g', j, none⟩ (.int .i64 ((z : Nat) : Int))) w.heap.size (vs.getD k nilRow) (cpTo r (j + 1)) := by
              rw [← UU.out, ← ST.out]
              exact hww.1
            refine ⟨j + 1, by omega, by go_num, ?_, C2.out.trans (M2.out.writeChg k KL2.out hgg)⟩
            have := M2.out.write k KL2.out _ ho hgg
            rw [List.set_set] at this
            exact this
          case measure => simp [intOf]; omega
        · obtain rfl : j = ps.length := by omega
          have M2 := hide hM2
          have C2 := hide hC2
          clear hM2 hC2
          go_wp2
          go_roundw
          case rel =>
            refine ⟨k + 1, by omega, by go_num, ?_, C2.out⟩
            have := M2.out
            have e := cpTo_end r
            rw [RL.out, HL.out] at e
            rw [e, ← PK.out, gTo_step _ _ k (by rw [PL.out]; exact hlt)] at this
            exact this
          case measure => simp [intOf]; omega
    · obtain rfl : k = ps.length := by omega
      have hm := hM
      have e := gTo_end P (List.replicate l 0)
      rw [PL.out] at e
      rw [e] at hm
      have RM := hide hm.rd
      have BB := hide (B3.out.trans (hC.below (Nat.le_refl _) B3.out.size))
      clear hM hC hm e M3 B3
      obtain ⟨WW, rfl⟩ : ∃ W, W = wr := ⟨_, rfl⟩
      have hsok : (slvR P (ss.take ps.length)).2 = true := by
        rw [HP.out]
        refine van_ok OK.out h1 h3 (by rw [List.length_take]; omega) ?_
        rw [List.all_eq_true]
        intro x hx
        exact List.all_eq_true.1 ES.out x (List.mem_of_mem_take hx)
      obtain ⟨S, hS1, hS2, _, _, hS3, _⟩ := slv_facts hsok
      rw [PL.out] at hS2
      have SOK := hide hsok
      have HS1 := hide hS1
      have HS2 := hide hS2
      have HS3 := hide hS3
      have hRS : res = ci (fixN (nat xs) S ps ps.length) := by
        rw [RES.out]
        unfold fixW
        rw [← HP.out, hS1, nat_ci]
      have HRS := hide hRS
      have RT : Hid (Rd WW (.slice sa ps.length sc) (ss.take ps.length)) := rd_takep (RS.out.below BB.out) hl
      have f1 : (ps.length : Int) ≤ (sc : Int) := by omega
      clear hsok hS1 hS2 hS3 hRS
      go_wp2_with fail
      refine (solveBy_calls _ _ P (ss.take ps.length) _ (T.out.below BB.out) RM.out RT.out).mono ?_
      rw [SOK.out, HS1.out]
      rintro e w4 ⟨dv, rfl, ho4, hb4⟩
      have O4 := hide ho4
      have B4 := hide (BB.out.trans (hb4.mono BB.out.size))
      clear ho4 hb4
      go_wp2_with fail
      refine (copyList_calls _ xs _ (RX.out.below B4.out) (by omega)).mono ?_
      rintro e w5 ⟨rv, rfl, ho5, hb5⟩
      have hx0 : 0 < xs.length := by have := IN.out 0 (by omega); have := (OK.out 0 (by omega)).1; omega
      obtain ⟨g5, cap5, hv5, hq1, hq2, _⟩ := Gf.Own.open ho5 hx0
      subst hv5
      have hxe := Gf.ci_nat EX.out
      have XL : Hid (AllLt (nat xs)) := Gf.nat_lt EX.out
      have NL : Hid ((nat xs).length = xs.length) := Gf.nat_length xs
      have O5 : Hid (w5.ownsRow w.heap.size 3 1 (.slice (some ⟨g5, 0, none⟩) xs.length cap5) xs.length ((ci (fixN (nat xs) S ps 0)).map (Value.int .i64))) := by
        have := ho5.mono (base' := w.heap.size) B4.out.size
        rw [fixN, hxe]
        exact this
      have OD := hide (O4.out.below hb5)
      have B5 := hide (B4.out.trans (hb5.mono B4.out.size))
      have s45 := hb5.size
      have far : Hid (∀ k, dv.ownBlock = some k → k < w4.heap.size) := fun k hk => (O4.out.lt k hk).2
      obtain ⟨da, dc, hdv, _, _, _⟩ := O4.out.rd
      rw [Gf.ci_length, HS2.out] at hdv
      subst hdv
      clear ho5 hb5 hxe O4
      go_wp2
      go_loopw [58] (fun vi wr2 => ∃ i : Nat, i ≤ ps.length ∧ vi = .int .i64 i ∧ wr2.ownsRow w.heap.size 3 1 (.slice (some ⟨g5, 0, none⟩) xs.length cap5) xs.length ((ci (fixN (nat xs) S ps i)).map (Value.int .i64)) ∧ w5.grownBy wr2 (some g5)) (fun vi _ => ps.length - (intOf vi).toNat)
      case atStart => exact ⟨0, Nat.zero_le _, rfl, O5.out, World.grownBy.refl _ _⟩
      case round =>
        obtain ⟨i, hi, rfl, ho, hg⟩ := hrel
        have O := hide ho
        have GG := hide hg
        have BX : Hid (Below w.heap.size w wr) := B5.out.grown hg B5.out.size (fun k hk => by cases hk; have := B4.out.size; omega)
        clear ho hg
        by_cases hlti : i < ps.length
        · have hlti' : (i : Int) < (ps.length : Int) := by omega
          obtain ⟨pb, po, pu, rfl, hpc, hpu⟩ := (RP.out.below BX.out).row i hlti
          obtain ⟨y, hyy⟩ : ∃ y, y = ps.getD i 0 := ⟨_, rfl⟩
          rw [← hyy] at hpu
          subst hpu
          obtain ⟨ha, hb, _⟩ := OK.out i hlti
          have hc := IN.out i hlti
          rw [← hyy] at ha hb hc
          obtain ⟨Y, rfl⟩ := Int.eq_ofNat_of_zero_le ha
          have hYx : Y < xs.length := by omega
          have OD2 : Rd wr (.slice da ps.length dc) (ci S) := by
            refine Own.rd (base := WW.heap.size) (World.ownsRow.kept OD.out GG.out ?_)
            right
            intro e
            have := far.out g5 e
            omega
          obtain ⟨db, dof, rfl, hdc⟩ := Gf.Rd.rowN OD2 i (by rw [HS2.out]; exact hlti)
          obtain ⟨d, hd⟩ : ∃ d, d = S.getD i 0 := ⟨_, rfl⟩
          rw [← hd] at hdc
          have hd256 : d < 256 := by rw [hd]; exact HS3.out i
          have hcf := O.out.frozenAt Y
          have hcc := O.out.cellAt Y (by omega)
          have hll : Y < (ci (fixN (nat xs) S ps i)).length := by rw [Gf.ci_length, fixN_length, NL.out]; exact hYx
          rw [List.getElem?_map, List.getElem?_eq_getElem hll] at hcc
          have h9 := Gf.ci_getD (fixN (nat xs) S ps i) Y
          rw [List.getD_eq_getElem?_getD, List.getElem?_eq_getElem hll, Option.getD_some] at h9
          obtain ⟨c, hcq⟩ : ∃ c, c = (fixN (nat xs) S ps i).getD Y 0 := ⟨_, rfl⟩
          rw [h9, ← hcq] at hcc
          have hc256 : c < 256 := by rw [hcq]; exact fixN_lt XL.out HS3.out i Y
          have NX : Hid (Gf.xorAt (fixN (nat xs) S ps i) Y d = fixN (nat xs) S ps (i + 1)) := by rw [fixN, ← hyy, ← hd, Int.toNat_natCast]; exact hide rfl
          have CQ := hide hcq
          have i2 : (Y : Int) < (xs.length : Int) := by omega
          clear hyy hd hcq h9 hll OD2 ha hb hc
          go_wp2
          go_region_with (fail)
          all_goals
            go_wp2
            go_roundw
            case rel =>
              refine ⟨i + 1, by omega, by go_num, ?_, ?_⟩
              · have := (O.out.stored Y (.int .i64 (c ^^^ d : Nat))).1
                rw [← List.map_set, Gf.ci_set, CQ.out] at this
                rw [Gf.i64_xor _ _ (by omega) (by omega), CQ.out, ← NX.out]
                exact this.drew
              · exact Gf.grownBy_drew (Gf.grownBy_trans GG.out (O.out.stored Y _).2)
            case measure => simp [intOf]; omega
        · obtain rfl : i = ps.length := by omega
          have O6 : Hid (Own wr w.heap.size (.slice (some ⟨g5, 0, none⟩) xs.length cap5) res) := by
            show World.ownsRow _ _ _ _ _ res.length _
            rw [HRS.out, Gf.ci_length, fixN_length, NL.out]
            exact O.out
          clear O
          go_wp2
          go_ret
          exact ⟨_, rfl, O6.out, BX.out⟩
end Go.Proofs.YtogopakmebiomaaDoor

namespace Go.Proofs.YtogopakmebiomaaDoor
open Go.RowKit
namespace Gf

theorem rd_single4 {w : World} {z : Int} : Rd (w.alloc (.cells #[.int .i64 z] 3)) (.slice (some ⟨w.heap.size, 0, none⟩) 1 1) [z] := by
  refine ⟨_, 1, rfl, Nat.le_refl _, ⟨by unfold maxLen; omega, fun h => by cases h⟩, .inr ⟨_, 0, rfl, by simp, fun i hi => ?_⟩⟩
  simp at hi
  subst hi
  exact World.cell?_alloc_at _ _ _ _ (by simp)
theorem ci_app (a b : List Nat) : ci (a ++ b) = ci a ++ ci b := by simp [ci]
def padJ (p : List Nat) (j : Nat) : List Nat := p ++ List.replicate j 0
theorem padJ_step (p : List Nat) (j : Nat) : ci (padJ p j) ++ [0] = ci (padJ p (j + 1)) := by
  unfold padJ
  rw [List.replicate_succ', ← List.append_assoc, ci_app _ [0]]
  rfl
theorem padJ_length (p : List Nat) (j : Nat) : (padJ p j).length = p.length + j := by simp [padJ]

set_option maxRecDepth 100000 in
set_option maxHeartbeats 3200000 in
theorem l4Add_calls (pv qv : Value) (p q : List Nat) (F A : Nat) (w : World) (hp : Rd w pv (ci p)) (hq : Rd w qv (ci q)) (hpl : AllLt p) (hql : AllLt q) (hF : F < 256) (hpn : p.length ≤ 64) (hqn : q.length ≤ 64) (hA : A ≤ 64) (hA1 : 1 ≤ A) :
    Calls Tryd.prog 131 #[pv, qv, .int .i64 F, .int .i64 A] w fun e w' => ∃ v', e = .returned v' ∧ Own w' w.heap.size v' (ci (smAdd p q F A)) ∧ Below w.heap.size w w' := by
  have P := hide hp
  have Q := hide hq
  have PL := hide hpl
  have QL := hide hql
  obtain ⟨pa, pc, rfl, _, _, _⟩ := hp
  obtain ⟨qa, qc, rfl, _, _, _⟩ := hq
  simp only [ci_length]
  have P1 : Hid (Rd w (.slice pa p.length pc) (ci p)) := by have := P.out; rwa [ci_length] at this
  clear P
  obtain ⟨D, hD⟩ : ∃ D, D = q.length + A - p.length := ⟨_, rfl⟩
  have HR : Hid (smAdd p q F A = amTo (padJ p D) q F A q.length) := by rw [hD]; rfl
  obtain ⟨res, hres⟩ : ∃ r, r = smAdd p q F A := ⟨_, rfl⟩
  rw [← hres]
  have RES := hide hres
  have hDp : D ≤ 128 := by omega
  have hDq : q.length + A ≤ p.length + D := by omega
  have hDz : ∀ j, j < D → p.length + j < q.length + A := by omega
  have HDZ := hide hDz
  clear hpl hql hres hD hDz
  have OO : Hid ((w.alloc (.cells #[] 3)).ownsRow w.heap.size 3 1 (.slice (some ⟨w.heap.size, 0, none⟩) 0 0) 0 (([] : List Int).map (Value.int .i64))) := World.ownsRow_lit w #[] 0 (Nat.le_refl _) (by decide) (by rfl)
  have PP := hide (P1.out.below ((Below.refl w.heap.size w).alloc (Nat.le_refl _) (.cells #[] 3)))
  go_enter Tryd.func131, Tryd.ntmps131
  go_wp2_with (at_builtin; refine wpList_append_rd rfl (.tmp 12) (.tmp 13) rfl w.heap.size _ 0 [] (ci p) rfl OO.out _ rfl PP.out (by rw [ci_length]; omega) (by simp) ?_)
  intro v1 w1 ho1 hg1
  have hb1 : Below w.heap.size w w1 := ((Below.refl w.heap.size w).alloc (Nat.le_refl _) _).grown hg1 (by simp) (fun i hi => by cases hi; exact Nat.le_refl _)
  have O1 := hide ho1
  have B1 := hide hb1
  clear ho1 hg1 hb1
  go_wp2
  go_loopw [9] (fun vo wr => ∃ j : Nat, j ≤ D ∧ Own wr w.heap.size vo (ci (padJ p j)) ∧ Below w.heap.size w wr) (fun vo _ => p.length + D - lenOf vo)
  case atStart => exact ⟨0, Nat.zero_le _, by rw [show padJ p 0 = p from by simp [padJ]]; exact O1.out, B1.out⟩
  case round =>
    obtain ⟨j, hj, ho, hb⟩ := hrel
    have O := hide ho
    have B := hide hb
    obtain ⟨M, hM⟩ : ∃ M, M = p.length + j := ⟨_, rfl⟩
    have hl : (ci (padJ p j)).length = M := by rw [ci_length, padJ_length, hM]
    have HLL := hide hl
    have HM := hide hM
    obtain ⟨oa, oc, hov, _, _, _⟩ := ho.rd
    rw [hl] at hov
    subst hov
    clear ho hb hl
    by_cases hlt : j < D
    · have hlt' : (M : Int) < (q.length : Int) + (A : Int) := by have := HDZ.out j hlt; omega
      have hM64 : M ≤ 256 := by omega
      obtain ⟨M2, hM2⟩ : ∃ M2, M2 = p.length + (j + 1) := ⟨_, rfl⟩
      have hmeas : p.length + D - M2 < p.length + D - M := by omega
      have HM2 := hide hM2
      have OA : Hid (wr.ownsRow w.heap.size 3 1 (.slice oa M oc) M ((ci (padJ p j)).map (Value.int .i64))) := by
        have := O.out
        unfold Own at this
        rw [HLL.out] at this
        exact this
      clear hM hM2
      go_wp2_with (at_builtin; refine wpList_append_rd rfl (.tmp 22) (.tmp 23) rfl w.heap.size _ M (ci (padJ p j)) [0] rfl (OA.out.alloc _) _ rfl rd_single4 (by simp; omega) (by have := B.out.size; simp; omega) ?_)
      intro v2 w2 ho2 hg2
      have hb2 : Below w.heap.size w w2 := (B.out.alloc B.out.size _).grown hg2 (by have := B.out.size; simp; omega) (fun i hi => (O.out.lt i hi).1)
      rw [padJ_step] at ho2
      have O2 := hide ho2
      have B2 := hide hb2
      obtain ⟨oa2, oc2, hov2, _, _, _⟩ := ho2.rd
      rw [ci_length, padJ_length, ← HM2.out] at hov2
      subst hov2
      clear ho2 hg2 hb2
      go_wp2
      go_roundw
      case rel => exact ⟨j + 1, by omega, O2.out, B2.out⟩
      case measure => simp only [lenOf]; exact hmeas
    · obtain rfl : j = D := by omega
      have hlt' : ¬ (M : Int) < (q.length : Int) + (A : Int) := by omega
      obtain ⟨S, hS⟩ : ∃ S, S = padJ p j := ⟨_, rfl⟩
      have hMA : A + q.length ≤ M := by omega
      have hM128 : M ≤ 256 := by omega
      have SLn : S.length = M := by rw [hS, padJ_length, hM]
      have SLt : Hid (AllLt S) := by
        rw [hS]
        intro i
        have := padTo_fn p (p.length + j) i
        unfold padTo at this
        rw [Nat.add_sub_cancel_left] at this
        show fn (padJ p j) i < 256
        unfold padJ
        rw [this]
        exact PL.out i
      obtain ⟨g, hog⟩ : ∃ g, oa = some ⟨g, 0, none⟩ := by
        rcases O.out.2 with ⟨h', _⟩ | ⟨g, cap, cur, h', _⟩
        · exfalso
          simp at h'
          omega
        · simp at h'
          exact ⟨g, h'.1⟩
      subst hog
      have O2 : Hid (wr.ownsRow w.heap.size 3 1 (.slice (some ⟨g, 0, none⟩) M oc) M ((ci S).map (Value.int .i64))) := by
        have := O.out
        unfold Own at this
        rw [HLL.out, ← hS] at this
        exact this
      have RES2 : Hid (res = amTo S q F A q.length) := by rw [RES.out, HR.out, hS]; exact hide rfl
      have hg0 : w.heap.size ≤ g := (O2.out.lt g rfl).1
      have HS := hide SLn
      clear O hS SLn hlt hj hM
      go_wp2
      go_loopw [27] (fun vi wx => ∃ k : Nat, k ≤ q.length ∧ vi = .int .i64 k ∧ wx.ownsRow w.heap.size 3 1 (.slice (some ⟨g, 0, none⟩) M oc) M ((ci (amTo S q F A k)).map (Value.int .i64)) ∧ Below w.heap.size w wx) (fun vi _ => q.length - (intOf vi).toNat)
      case atStart => exact ⟨0, Nat.zero_le _, rfl, O2.out, B.out⟩
      case round =>
        obtain ⟨k, hk, rfl, hown, hb⟩ := hrel
        have O := hide hown
        have BB := hide hb
        clear hown hb
        by_cases hlt : k < q.length
        · obtain ⟨b, off, rfl, hc1⟩ := Rd.rowN (Q.out.below BB.out) k hlt
          have hc2 := O.out.frozenAt (A + k)
          have hc3 := O.out.cellAt (A + k) (by omega)
          obtain ⟨z, hz⟩ : ∃ z, z = q.getD k 0 := ⟨_, rfl⟩
          obtain ⟨y, hy⟩ : ∃ y, y = (amTo S q F A k).getD (A + k) 0 := ⟨_, rfl⟩
          rw [List.getElem?_map] at hc3
          have hll : A + k < (ci (amTo S q F A k)).length := by rw [ci_length, amTo_length, HS.out]; omega
          rw [List.getElem?_eq_getElem hll] at hc3
          have h9 := ci_getD (amTo S q F A k) (A + k)
          rw [List.getD_eq_getElem?_getD, List.getElem?_eq_getElem hll, Option.getD_some] at h9
          rw [h9, ← hy] at hc3
          rw [← hz] at hc1
          clear h9 hll
          have e1 : ((k : Int) + (A : Int)).toNat = A + k := by omega
          have i1 : (0 : Int) ≤ (k : Int) + (A : Int) := by omega
          have i2 : (k : Int) + (A : Int) < (M : Int) := by omega
          have i3 : (k : Int) < (q.length : Int) := by omega
          have i4 : IntKind.i64.wrap ((k : Int) + (A : Int)) = (k : Int) + (A : Int) := by rw [wrap_i64]; omega
          have hz256 : z < 256 := by rw [hz]; exact QL.out k
          have hy256 : y < 256 := by rw [hy]; exact amTo_lt SLt.out hF k _
          have Z := hide hz
          have Y := hide hy
          clear hz hy
          go_wp2
          go_region_with (go_at_call 128; refine (l1Mul_calls _ _ _ (by omega) (by omega) (by omega) (by omega)).mono ?_; rintro e w' ⟨rfl, rfl⟩)
          all_goals
            go_wp2
            go_roundw
            case rel =>
              refine ⟨k + 1, by omega, by go_num, ?_, ?_⟩
              · have := (O.out.stored (A + k) (.int .i64 (y ^^^ mul F z : Nat))).1
                rw [← List.map_set, ci_set, Y.out, Z.out] at this
                rw [i64_xor _ _ (by omega) (by have := mul_lt (a := F) (b := z) (by omega); omega), Y.out, Z.out]
                exact this.drew
              · exact (fun {B : Nat} {w w' : World} (h : Below B w w') => (⟨h.os, h.tape, h.output, h.size, h.block⟩ : Below B w w'.drew)) (BB.out.setCell hg0 _)
            case measure => simp [intOf]; omega
        · obtain rfl : k = q.length := by omega
          have O3 : Hid (Own wr w.heap.size (.slice (some ⟨g, 0, none⟩) M oc) (ci res)) := by
            show World.ownsRow _ _ _ _ _ (ci res).length _
            rw [ci_length, RES2.out, amTo_length, HS.out]
            exact O.out
          clear O
          go_wp2
          go_ret
          exact ⟨_, rfl, O3.out, BB.out⟩
end Gf
end Go.Proofs.YtogopakmebiomaaDoor

namespace Go.Proofs.YtogopakmebiomaaDoor
open Go.RowKit
open Gf (ci nat ciM Sh AllLt)

set_option maxRecDepth 100000 in
set_option maxHeartbeats 6400000 in
theorem l4Fix_calls (xv pv sv : Value) (xs ps ss : List Int) (w : World) (hx : Rd w xv xs) (hp : Rd w pv ps) (hs : Rd w sv ss) (ex : xs.all Gf.elOk = true) (es : ss.all Gf.elOk = true)
    (hok : PlOk ps) (hin : ∀ i, i < ps.length → ps.getD i 0 < (xs.length : Int)) (h1 : 1 ≤ ps.length) (h3 : ps.length ≤ 3) (hl : ps.length ≤ ss.length) (hxl : xs.length ≤ 24) :
    Calls Tryd.prog 88 #[xv, pv, sv] w fun e w' => ∃ v', e = .returned (.tuple #[v', .bool true]) ∧ Own w' w.heap.size v' (fixW xs ps ss) ∧ Below w.heap.size w w' := by
  have RX := hide hx
  have RP := hide hp
  have RS := hide hs
  have EX := hide ex
  have ES := hide es
  have OK := hide hok
  have IN := hide hin
  obtain ⟨xa, xc, rfl, _⟩ := hx
  obtain ⟨pa, pc, rfl, _⟩ := hp
  obtain ⟨sa, sc, rfl, hsc, _⟩ := hs
  obtain ⟨P, hP⟩ : ∃ P, P = vanM ps := ⟨_, rfl⟩
  have hPl : P.length = ps.length := by rw [hP, vanM_length]
  have hPg : ∀ k, k < ps.length → P.getD k [] = vanRow ps k := fun k hk => by rw [hP, vanM_get _ _ hk]
  have PL := hide hPl
  have PG := hide hPg
  have HP := hide hP
  obtain ⟨res, hres⟩ : ∃ r, r = fixW xs ps ss := ⟨_, rfl⟩
  rw [← hres]
  have RES := hide hres
  clear ex es hok hin hP hPl hPg hres
  go_enter Tryd.func88, Tryd.ntmps88
  go_wp2
  go_loopw [8, 20] (fun vo vi wr => ∃ (k : Nat) (vs : List Value), k ≤ ps.length ∧ vi = .int .i64 k ∧ MatV wr w.heap.size wr.heap.size vo vs (P.take k) ∧ Below w.heap.size w wr) (fun _ vi _ => ps.length - (intOf vi).toNat)
  case atStart =>
    obtain ⟨vs, hv⟩ := Mat.nil w w.heap.size w.heap.size
    exact ⟨0, vs, Nat.zero_le _, rfl, hv, Below.refl _ _⟩
  case round =>
    obtain ⟨k, vs, hk, rfl, hm, hb⟩ := hrel
    have M := hide hm
    have B := hide hb
    clear hm hb
    by_cases hlt : k < ps.length
    · have hlt' : (k : Int) < (ps.length : Int) := by omega
      obtain ⟨r, hr⟩ : ∃ r, r = vanRow ps k := ⟨_, rfl⟩
      have hrl : r.length = ps.length := by rw [hr, vanRow_length]
      have hrg : ∀ j, j < ps.length → r.getD j 0 = ((Gf.pow 2 ((ps.getD j 0).toNat * k) : Nat) : Int) := fun j hj => by rw [hr, vanRow_get _ _ _ hj]
      have hnext : P.take k ++ [r] = P.take (k + 1) := by
        rw [take_snoc P [] k (by rw [PL.out]; exact hlt), PG.out k hlt, hr]
      have RL := hide hrl
      have RG := hide hrg
      have NX := hide hnext
      obtain ⟨W1, rfl⟩ : ∃ W1, W1 = wr := ⟨_, rfl⟩
      clear hr hrl hrg hnext
      go_wp2
      go_loopw [10, 25] (fun vr vi wr2 => ∃ (j : Nat), j ≤ ps.length ∧ vi = .int .i64 j ∧ Own wr2 W1.heap.size vr (r.take j) ∧ Below W1.heap.size W1 wr2) (fun _ vi _ => ps.length - (intOf vi).toNat)
      case atStart => exact ⟨0, Nat.zero_le _, rfl, World.ownsRow_nil _ _ _ _, Below.refl _ _⟩
      case round =>
        obtain ⟨j, hj, rfl, ho, hb2⟩ := hrel
        have O := hide ho
        have B2 := hide hb2
        clear ho hb2
        by_cases hltj : j < ps.length
        · have hltj' : (j : Int) < (ps.length : Int) := by omega
          obtain ⟨yb, yoff, yu, rfl, hyc, hyu⟩ := ((RP.out.below B.out).below B2.out).row j hltj
          obtain ⟨y, hyy⟩ : ∃ y, y = ps.getD j 0 := ⟨_, rfl⟩
          rw [← hyy] at hyu
          subst hyu
          obtain ⟨ha, hb, _⟩ := OK.out j hltj
          rw [← hyy] at ha hb
          have hg := RG.out j hltj
          rw [← hyy] at hg
          obtain ⟨Y, rfl⟩ := Int.eq_ofNat_of_zero_le ha
          have hY : Y < 24 := by omega
          simp only [Int.toNat_natCast] at hg
          have hYk : Y * k ≤ 23 * 3 := Nat.mul_le_mul (by omega) (by omega)
          have hw : (Y : Int) * (k : Int) = ((Y * k : Nat) : Int) := by simp
          obtain ⟨z, hz⟩ : ∃ z, z = Gf.pow 2 (Y * k) := ⟨_, rfl⟩
          rw [← hz] at hg
          have CI : Hid (∀ w', Calls Tryd.prog 123 #[.int .i64 2, .int .i64 ((Y : Int) * (k : Int))] w' fun e w'' => e = .returned (.int .i64 ((z : Nat) : Int)) ∧ w' = w'') := by
            intro w'
            rw [hw]
            obtain ⟨q, hq⟩ : ∃ q : Nat, q = Y * k := ⟨_, rfl⟩
            rw [← hq] at hz hYk ⊢
            clear hw hg
            refine (Gf.l1Pow_calls 2 q w' (by decide) (by decide) (by omega) (by omega)).mono ?_
            rintro e w'' ⟨rfl, rfl⟩
            refine ⟨?_, rfl⟩
            rw [Int.toNat_natCast]
            rw [show Gf.pow (Int.toNat 2) q = z from hz.symm]
          have HG := hide hg
          have HL2 : Hid ((r.take j).length = j) := by show (r.take j).length = j; rw [List.length_take, RL.out]; omega
          clear hyy ha hb hg hz hw
          go_wp2_with fail
          refine (CI.out _).mono ?_
          rintro e w2 ⟨rfl, rfl⟩
          have O2 := hide (O.out.alloc (.cells #[.int .i64 ((z : Nat) : Int)] 3))
          go_wp2_with (at_builtin; refine wpList_append_rd rfl _ _ rfl W1.heap.size _ (r.take j).length (r.take j) [((z : Nat) : Int)] rfl O2.out _ rfl rd_single (by rw [HL2.out]; simp; omega) (by have := B2.out.size; simp; omega) ?_)
          intro v' w3 ho3 hg3
          have hb3 : Below W1.heap.size W1 w3 := (B2.out.alloc B2.out.size _).grown hg3 (by have := B2.out.size; simp; omega) (fun i hi => (O.out.lt i hi).1)
          have e : r.take j ++ [((z : Nat) : Int)] = r.take (j + 1) := by rw [take_snoc r 0 j (by rw [RL.out]; exact hltj), HG.out]
          rw [e] at ho3
          have O3 := hide ho3
          have B3 := hide hb3
          clear ho3 hg3 hb3 e
          go_wp2
          go_roundw
          case rel => exact ⟨j + 1, by omega, by go_num, O3.out, B3.out⟩
          case measure => simp [intOf]; omega
        · obtain rfl : j = ps.length := by omega
          have ho := O.out
          rw [← RL.out, List.take_of_length_le (Nat.le_refl _)] at ho
          obtain ⟨ra, rn, rc, rfl⟩ := ho.shape
          have OO := hide ho
          clear ho O
          go_wp2_with (at_builtin; refine wpList_append_row rfl _ _ rfl w.heap.size W1.heap.size _ vs (P.take k) rfl M.out (B2.out.alloc B2.out.size _) _ r (OO.out.below ((Below.refl _ _).alloc (Nat.le_refl _) _)) (Nat.le_refl _) B.out.size _ rfl (World.cell?_alloc_at _ _ _ _ (by simp)) (by simp; omega) ?_)
          intro v2 w2 hM2 hB2
          rw [NX.out] at hM2
          have M2 := hide hM2
          have B3 := hide hB2
          clear hM2 hB2
          go_wp2
          go_roundw
          case rel => exact ⟨k + 1, _, by omega, by go_num, M2.out, B.out.trans B3.out⟩
          case measure => simp [intOf]; omega
    · obtain rfl : k = ps.length := by omega
      obtain ⟨WW, rfl⟩ : ∃ W, W = wr := ⟨_, rfl⟩
      have RM : Hid (RdM WW u8 P) := by
        have := M.out.rd
        rw [← PL.out, List.take_of_length_le (Nat.le_refl _)] at this
        exact this
      have BB := B
      have hsok : (slvR P (ss.take ps.length)).2 = true := by
        rw [HP.out]
        refine van_ok OK.out h1 h3 (by rw [List.length_take]; omega) ?_
        rw [List.all_eq_true]
        intro x hx
        exact List.all_eq_true.1 ES.out x (List.mem_of_mem_take hx)
      obtain ⟨S, hS1, hS2, _, _, hS3, _⟩ := slv_facts hsok
      rw [PL.out] at hS2
      have SOK := hide hsok
      have HS1 := hide hS1
      have HS2 := hide hS2
      have HS3 := hide hS3
      have hRS : res = ci (fixN (nat xs) S ps ps.length) := by
        rw [RES.out]
        unfold fixW
        rw [← HP.out, hS1, nat_ci]
      have HRS := hide hRS
      have RT : Hid (Rd WW (.slice sa ps.length sc) (ss.take ps.length)) := rd_takep (RS.out.below BB.out) hl
      have f1 : (ps.length : Int) ≤ (sc : Int) := by omega
      clear hsok hS1 hS2 hS3 hRS
      go_wp2_with fail
      refine (sSolveBy_calls _ _ P (ss.take ps.length) _ RM.out RT.out).mono ?_
      rw [SOK.out, HS1.out]
      rintro e w4 ⟨dv, rfl, ho4, hb4⟩
      have O4 := hide ho4
      have B4 := hide (BB.out.trans (hb4.mono BB.out.size))
      clear ho4 hb4
      have OO : Hid ((w4.alloc (.cells #[] 3)).ownsRow w4.heap.size 3 1 (.slice (some ⟨w4.heap.size, 0, none⟩) 0 0) 0 (([] : List Int).map (Value.int .i64))) := World.ownsRow_lit w4 #[] 0 (Nat.le_refl _) (by decide) (by rfl)
      have PP := hide ((RX.out.below B4.out).below ((Below.refl w4.heap.size w4).alloc (Nat.le_refl _) (.cells #[] 3)))
      go_wp2_with (at_builtin; refine wpList_append_rd rfl (.tmp 53) (.tmp 54) rfl w4.heap.size _ 0 [] xs rfl OO.out _ rfl PP.out (by omega) (by simp) ?_)
      intro rv w5 ho5 hg5
      have hb5 : Below w4.heap.size w4 w5 := ((Below.refl w4.heap.size w4).alloc (Nat.le_refl _) _).grown hg5 (by simp) (fun i hi => by cases hi; exact Nat.le_refl _)
      have hx0 : 0 < xs.length := by have := IN.out 0 (by omega); have := (OK.out 0 (by omega)).1; omega
      have ho5 : Own w5 w4.heap.size rv xs := ho5
      obtain ⟨g5, cap5, hv5, hq1, hq2, _⟩ := Gf.Own.open ho5 hx0
      subst hv5
      have hxe := Gf.ci_nat EX.out
      have XL : Hid (AllLt (nat xs)) := Gf.nat_lt EX.out
      have NL : Hid ((nat xs).length = xs.length) := Gf.nat_length xs
      have O5 : Hid (w5.ownsRow w.heap.size 3 1 (.slice (some ⟨g5, 0, none⟩) xs.length cap5) xs.length ((ci (fixN (nat xs) S ps 0)).map (Value.int .i64))) := by
        have := ho5.mono (base' := w.heap.size) B4.out.size
        rw [fixN, hxe]
        exact this
      have OD := hide (O4.out.below hb5)
      have B5 := hide (B4.out.trans (hb5.mono B4.out.size))
      have s45 := hb5.size
      have far : Hid (∀ k, dv.ownBlock = some k → k < w4.heap.size) := fun k hk => (O4.out.lt k hk).2
      obtain ⟨da, dc, hdv, _, _, _⟩ := O4.out.rd
      rw [Gf.ci_length, HS2.out] at hdv
      subst hdv
      clear ho5 hb5 hg5 hxe O4 OO PP
      go_wp2
      go_loopw [58] (fun vi wr2 => ∃ i : Nat, i ≤ ps.length ∧ vi = .int .i64 i ∧ wr2.ownsRow w.heap.size 3 1 (.slice (some ⟨g5, 0, none⟩) xs.length cap5) xs.length ((ci (fixN (nat xs) S ps i)).map (Value.int .i64)) ∧ w5.grownBy wr2 (some g5)) (fun vi _ => ps.length - (intOf vi).toNat)
      case atStart => exact ⟨0, Nat.zero_le _, rfl, O5.out, World.grownBy.refl _ _⟩
      case round =>
        obtain ⟨i, hi, rfl, ho, hg⟩ := hrel
        have O := hide ho
        have GG := hide hg
        have BX : Hid (Below w.heap.size w wr) := B5.out.grown hg B5.out.size (fun k hk => by cases hk; have := B4.out.size; omega)
        clear ho hg
        by_cases hlti : i < ps.length
        · have hlti' : (i : Int) < (ps.length : Int) := by omega
          obtain ⟨pb, po, pu, rfl, hpc, hpu⟩ := (RP.out.below BX.out).row i hlti
          obtain ⟨y, hyy⟩ : ∃ y, y = ps.getD i 0 := ⟨_, rfl⟩
          rw [← hyy] at hpu
          subst hpu
          obtain ⟨ha, hb, _⟩ := OK.out i hlti
          have hc := IN.out i hlti
          rw [← hyy] at ha hb hc
          obtain ⟨Y, rfl⟩ := Int.eq_ofNat_of_zero_le ha
          have hYx : Y < xs.length := by omega
          have OD2 : Rd wr (.slice da ps.length dc) (ci S) := by
            refine Own.rd (base := WW.heap.size) (World.ownsRow.kept OD.out GG.out ?_)
            right
            intro e
            have := far.out g5 e
            omega
          obtain ⟨db, dof, rfl, hdc⟩ := Gf.Rd.rowN OD2 i (by rw [HS2.out]; exact hlti)
          obtain ⟨d, hd⟩ : ∃ d, d = S.getD i 0 := ⟨_, rfl⟩
          rw [← hd] at hdc
          have hd256 : d < 256 := by rw [hd]; exact HS3.out i
          have hcf := O.out.frozenAt Y
          have hcc := O.out.cellAt Y (by omega)
          have hll : Y < (ci (fixN (nat xs) S ps i)).length := by rw [Gf.ci_length, fixN_length, NL.out]; exact hYx
          rw [List.getElem?_map, List.getElem?_eq_getElem hll] at hcc
          have h9 := Gf.ci_getD (fixN (nat xs) S ps i) Y
          rw [List.getD_eq_getElem?_getD, List.getElem?_eq_getElem hll, Option.getD_some] at h9
          obtain ⟨c, hcq⟩ : ∃ c, c = (fixN (nat xs) S ps i).getD Y 0 := ⟨_, rfl⟩
          rw [h9, ← hcq] at hcc
          have hc256 : c < 256 := by rw [hcq]; exact fixN_lt XL.out HS3.out i Y
          have NX : Hid (Gf.xorAt (fixN (nat xs) S ps i) Y d = fixN (nat xs) S ps (i + 1)) := by rw [fixN, ← hyy, ← hd, Int.toNat_natCast]; exact hide rfl
          have CQ := hide hcq
          have i2 : (Y : Int) < (xs.length : Int) := by omega
          clear hyy hd hcq h9 hll OD2 ha hb hc
          go_wp2
          go_region_with (fail)
          all_goals
            go_wp2
            go_roundw
            case rel =>
              refine ⟨i + 1, by omega, by go_num, ?_, ?_⟩
              · have := (O.out.stored Y (.int .i64 (c ^^^ d : Nat))).1
                rw [← List.map_set, Gf.ci_set, CQ.out] at this
                rw [Gf.i64_xor _ _ (by omega) (by omega), CQ.out, ← NX.out]
                exact this.drew
              · exact Gf.grownBy_drew (Gf.grownBy_trans GG.out (O.out.stored Y _).2)
            case measure => simp [intOf]; omega
        · obtain rfl : i = ps.length := by omega
          have O6 : Hid (Own wr w.heap.size (.slice (some ⟨g5, 0, none⟩) xs.length cap5) res) := by
            show World.ownsRow _ _ _ _ _ res.length _
            rw [HRS.out, Gf.ci_length, fixN_length, NL.out]
            exact O.out
          clear O
          go_wp2
          go_ret2
          exact ⟨_, rfl, O6.out, BX.out⟩
end Go.Proofs.YtogopakmebiomaaDoor

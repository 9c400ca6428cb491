/-
  By how much a rule does not fit, and the shortest rule of syndromes: the program's functions, call by call. The program's table of rests must hold its seven numbers.
-/
import Derived.Test.YtogopakmebiomaaDoorBm
import Derived.Test.YtogopakmebiomaaDoorGen
import Derived.Test.YtogopakmebiomaaDoorGood
namespace Go.Proofs.YtogopakmebiomaaDoor
open Go.RowKit
namespace Gf

theorem Rd.rowN {w : World} {a : Option Addr} {n cap : Nat} {s : List Nat} (h : Rd w (.slice a n cap) (ci s)) (i : Nat) (hi : i < s.length) :
    ∃ b off, a = some ⟨b, off, none⟩ ∧ w.cell? ⟨b, off + i, none⟩ = some (.int .i64 (s.getD i 0 : Nat)) := by
  obtain ⟨b, off, u, h1, h2, h3⟩ := Rd.row h i (by rw [ci_length]; exact hi)
  rw [ci_getD] at h3
  exact ⟨b, off, h1, by rw [h2, h3]⟩
set_option maxRecDepth 100000 in
set_option maxHeartbeats 800000 in
theorem missOf_calls (rv sv : Value) (c s : List Nat) (w : World) (hT : Tab w) (hr : Rd w rv (ci c)) (hs : Rd w sv (ci s)) (hc : AllLt c) (hsl : AllLt s) (hl : c.length ≤ s.length) (hm : s.length ≤ 64) :
    Calls Tryd.prog 83 #[rv, sv] w fun e w' => e = .returned (.int .i64 (dsc (fn c) (fn s) (s.length - 1) c.length : Nat)) ∧ w = w' := by
  have T := hide hT
  have R := hide hr
  have S := hide hs
  have CL := hide hc
  have SL := hide hsl
  obtain ⟨ra, rc, rfl, _, _, _⟩ := hr
  obtain ⟨sa, sc, rfl, _, _, _⟩ := hs
  simp only [ci_length]
  clear hT hc hsl
  go_enter Tryd.func83, Tryd.ntmps83
  go_wp2
  go_loop [5, 10] (fun vm vk => ∃ k : Nat, k ≤ c.length ∧ vk = .int .i64 k ∧ vm = .int .i64 (dsc (fn c) (fn s) (s.length - 1) k : Nat)) (fun _ vk => c.length - (intOf vk).toNat)
  case atStart => exact ⟨0, Nat.zero_le _, rfl, rfl⟩
  case round =>
    obtain ⟨k, hk, rfl, rfl⟩ := hrel
    by_cases hlt : k < c.length
    · have hlt' : (k : Int) < (c.length : Int) := by omega
      have e1 : ((s.length : Int) - 1 - (k : Int)).toNat = s.length - 1 - k := by omega
      have h01 : (0 : Int) ≤ (s.length : Int) - 1 - (k : Int) := by omega
      have h02 : (s.length : Int) - 1 - (k : Int) < (s.length : Int) := by omega
      obtain ⟨b1, o1, rfl, hc1⟩ := Rd.rowN R.out k hlt
      obtain ⟨b2, o2, rfl, hc2⟩ := Rd.rowN S.out (s.length - 1 - k) (by omega)
      obtain ⟨x, hx⟩ : ∃ x, x = c.getD k 0 := ⟨_, rfl⟩
      obtain ⟨y, hy⟩ : ∃ y, y = s.getD (s.length - 1 - k) 0 := ⟨_, rfl⟩
      have hx256 : x < 256 := by rw [hx]; exact CL.out k
      have hy256 : y < 256 := by rw [hy]; exact SL.out _
      have hd256 := dsc_lt (s := fn s) (k := s.length - 1) CL.out k
      obtain ⟨d, hd⟩ : ∃ d, d = dsc (fn c) (fn s) (s.length - 1) k := ⟨_, rfl⟩
      have D : Hid (dsc (fn c) (fn s) (s.length - 1) (k + 1) = d ^^^ mul x y) := by rw [hd, hx, hy]; rfl
      rw [← hx] at hc1
      rw [← hy] at hc2
      change dsc (fn c) (fn s) (s.length - 1) k < 256 at hd256
      rw [← hd] at hd256 ⊢
      have hm256 := mul_lt (a := x) (b := y) hx256
      clear hx hy hd
      go_wp2_with fail
      refine (mulE_calls _ _ _ T.out (by omega) (by omega) (by omega) (by omega)).mono ?_
      rintro e w' ⟨rfl, rfl⟩
      simp only [Int.toNat_natCast]
      go_wp2
      go_round
      case rel => exact ⟨k + 1, by omega, by go_num, by rw [D.out, i64_xor _ _ (by omega) (by omega)]⟩
      case measure => simp [intOf]; omega
    · obtain rfl : k = c.length := by omega
      go_wp2
      go_ret
      exact ⟨rfl, rfl⟩
def locOk (xs : List Int) : Bool := decide (xs.length = 2 ∨ xs.length = 4 ∨ xs.length = 6) && xs.all elOk
theorem locOk_yes {xs : List Int} (h : locOk xs = true) : (xs.length = 2 ∨ xs.length = 4 ∨ xs.length = 6) ∧ xs.all elOk = true := by
  simp only [locOk, Bool.and_eq_true, decide_eq_true_eq] at h
  exact h
theorem locOk_no {xs : List Int} (h : ¬ ((xs.length = 2 ∨ xs.length = 4 ∨ xs.length = 6) ∧ xs.all elOk = true)) : locOk xs = false := by
  cases hh : locOk xs with
  | false => rfl
  | true => exact absurd (locOk_yes hh) h
def locR (xs : List Int) : List Int × Bool := if locOk xs = true then (ci (locN (nat xs)), true) else ([], false)
theorem locR_yes {xs : List Int} (h : locOk xs = true) : locR xs = (ci (locN (nat xs)), true) := if_pos h
theorem locR_no {xs : List Int} (h : locOk xs = false) : locR xs = ([], false) := if_neg (by rw [h]; decide)
theorem locN_le {s : List Nat} (hs : AllLt s) : (locN s).length ≤ s.length + 1 := by
  have := (bm_inv hs s.length (Nat.le_refl _)).len
  unfold locN
  rw [cutNl_length]
  have h2 := cutN_le (ci (bmTo s s.length).c) (bmTo s s.length).c.length
  omega
theorem locR_len (xs : List Int) : (locR xs).1.length ≤ 1048576 := by
  unfold locR
  split
  next h =>
    obtain ⟨h1, h2⟩ := locOk_yes h
    have := locN_le (nat_ltp (fun c hc => elOk_iff.1 (List.all_eq_true.1 h2 c hc)))
    show (ci (locN (nat xs))).length ≤ _
    rw [ci_length]
    rw [nat_length] at this
    omega
  next => show 0 ≤ _; omega
theorem dsc_cut (c s : List Nat) {k j : Nat} (hj : j ≤ k + 1) : dsc (fn (c.take j)) (fn (s.take (k + 1))) k j = dsc (fn c) (fn s) k j := by
  have key : ∀ i, i ≤ j → dsc (fn (c.take j)) (fn (s.take (k + 1))) k i = dsc (fn c) (fn s) k i := by
    intro i
    induction i with
    | zero => intro _; rfl
    | succ i ih =>
      intro hi
      rw [dsc, dsc, ih (by omega)]
      have e1 : fn (c.take j) i = fn c i := by simp [fn, List.getD_eq_getElem?_getD, show i < j by omega]
      have e2 : fn (s.take (k + 1)) (k - i) = fn s (k - i) := by simp [fn, List.getD_eq_getElem?_getD, show k - i < k + 1 by omega]
      rw [e1, e2]
  exact key j (Nat.le_refl _)
theorem own_keep4 {w w' : World} {base g : Nat} {v : Value} {xs : List Int} (h : Own w base v xs) (hg : w.grownBy w' (some g)) (hb : g < base) : Own w' base v xs := by
  refine World.ownsRow.kept h hg ?_
  cases hv : v.ownBlock with
  | none => exact .inl rfl
  | some j =>
    right
    intro e
    have := (h.lt j hv).1
    simp at e
    omega

set_option maxRecDepth 100000 in
set_option maxHeartbeats 1600000 in
theorem locatorOf_no (v : Value) (xs : List Int) (w : World) (h : Rd w v xs) (hw : locOk xs = false) :
    Calls Tryd.prog 26 #[v] w fun e w' => e = .returned (.tuple #[.slice none 0 0, .bool false]) ∧ w = w' := by
  have R := hide h
  obtain ⟨a, cap, rfl, g1, g2, _⟩ := h
  have hm : xs.length ≤ maxLen := by omega
  unfold maxLen at hm
  clear g1 g2
  by_cases h1 : xs.length % 2 = 0
  case neg =>
    have t1 : ((xs.length : Int) % 2 != 0) = true := by simp; omega
    clear h1 hw
    go_enter Tryd.func26, Tryd.ntmps26
    go_wp2
    go_ret2
    exact ⟨rfl, rfl⟩
  have t1 : ((xs.length : Int) % 2 != 0) = false := by simp; omega
  by_cases h2 : 1 ≤ xs.length / 2 ∧ xs.length / 2 ≤ 3
  case neg =>
    have W : Hid (wOk ((xs.length : Int) / 2) = false) := wOk_no.2 (by omega)
    clear h1 hw h2
    go_enter Tryd.func26, Tryd.ntmps26
    go_wp2_with fail
    refine (isWrong_calls _ _).mono ?_
    rw [W.out]
    rintro e w' ⟨rfl, rfl⟩
    go_wp2
    go_ret2
    exact ⟨rfl, rfl⟩
  have W : Hid (wOk ((xs.length : Int) / 2) = true) := wOk_iff.2 (by omega)
  have h4 : xs.all elOk = false := by
    cases hh : xs.all elOk with
    | false => rfl
    | true =>
      exfalso
      simp only [locOk, hh, Bool.and_true, decide_eq_false_iff_not] at hw
      omega
  have E := hide h4
  clear h1 hw h2 h4
  go_enter Tryd.func26, Tryd.ntmps26
  go_wp2_with fail
  refine (isWrong_calls _ _).mono ?_
  rw [W.out]
  rintro e w' ⟨rfl, rfl⟩
  go_wp2_with fail
  refine (areElements_calls _ xs _ R.out).mono ?_
  rw [E.out]
  rintro e w' ⟨rfl, rfl⟩
  go_wp2
  go_ret2
  exact ⟨rfl, rfl⟩

set_option maxRecDepth 100000 in
set_option maxHeartbeats 6400000 in
theorem locatorOf_yes (v : Value) (xs : List Int) (w : World) (hT : Tab w) (h : Rd w v xs) (hw : locOk xs = true) :
    Calls Tryd.prog 26 #[v] w fun e w' => ∃ v', e = .returned (.tuple #[v', .bool true]) ∧ Own w' w.heap.size v' (ci (locN (nat xs))) ∧ Below w.heap.size w w' := by
  have T := hide hT
  have R := hide h
  obtain ⟨a, cap, rfl, hcap, _, _⟩ := h
  obtain ⟨hn, hal⟩ := locOk_yes hw
  have t1 : ((xs.length : Int) % 2 != 0) = false := by simp; omega
  have W : Hid (wOk ((xs.length : Int) / 2) = true) := wOk_iff.2 (by omega)
  have E := hide hal
  have n1 : 1 ≤ xs.length := by omega
  have n6 : xs.length ≤ 6 := by omega
  obtain ⟨s, hs⟩ : ∃ s, s = nat xs := ⟨_, rfl⟩
  have hsx : ci s = xs := by rw [hs]; exact ci_natp (fun c hc => elOk_iff.1 (List.all_eq_true.1 hal c hc))
  have hsl : AllLt s := by rw [hs]; exact nat_ltp (fun c hc => elOk_iff.1 (List.all_eq_true.1 hal c hc))
  have hslen : s.length = xs.length := by rw [hs, nat_length]
  obtain ⟨L, hL⟩ : ∃ L, L = locN (nat xs) := ⟨_, rfl⟩
  rw [← hL]
  have HL : Hid (cutNl (bmTo s xs.length).c = L) := by rw [hL, ← hs, ← hslen]; rfl
  have SX := hide hsx
  have SL := hide hsl
  have SLEN := hide hslen
  have INV : Hid (∀ k, k ≤ xs.length → BmI xs.length k (bmTo s k)) := fun k hk => by
    have := bm_inv hsl k (by rw [hslen]; exact hk)
    rwa [hslen] at this
  obtain ⟨sb, so, rfl⟩ : ∃ b off, a = some ⟨b, off, none⟩ := by
    obtain ⟨b, off, u, h1, _⟩ := R.out.row 0 (by omega)
    exact ⟨b, off, h1⟩
  clear hw hT hal hn hs hsx hsl hslen hL
  go_enter Tryd.func26, Tryd.ntmps26
  go_wp2_with fail
  refine (isWrong_calls _ _).mono ?_
  rw [W.out]
  rintro e w' ⟨rfl, rfl⟩
  go_wp2_with fail
  refine (areElements_calls _ xs _ R.out).mono ?_
  rw [E.out]
  rintro e w' ⟨rfl, rfl⟩
  obtain ⟨N, hN⟩ : ∃ N : Nat, N = xs.length + 1 := ⟨_, rfl⟩
  have HN3 : Hid ((xs.length : Int) + 1 = (N : Int)) := by show (xs.length : Int) + 1 = (N : Int); omega
  have HN := hide hN
  have nN : xs.length < N := by omega
  have nN7 : N ≤ 7 := by omega
  clear hN
  go_wp2_with (at_make; refine wpList_make_ints rfl _ _ rfl w.heap.size _ _ N rfl rfl HN3.out HN3.out (by omega) (Nat.le_refl _) ?_)
  intro w1 ho1 hg1
  obtain ⟨G, hG⟩ : ∃ G, G = w.heap.size := ⟨_, rfl⟩
  rw [← hG] at ho1 ⊢
  have hrow1 : w1.ownsRow w.heap.size 3 1 (.slice (some ⟨G, 0, none⟩) N N) N ((List.replicate N (0 : Int)).map (Value.int .i64)) := by
    have := ho1
    unfold Own at this
    rw [List.length_replicate, hG] at this
    rw [hG]
    exact this
  have hf1 : w1.frozen? ⟨G, 0, none⟩ = false := hrow1.frozenAt 0
  obtain ⟨old, hc1⟩ : ∃ old, w1.cell? ⟨G, 0, none⟩ = some old := by
    rw [hrow1.cellAt 0 (by omega)]
    exact ⟨_, List.getElem?_eq_getElem (by simp; omega)⟩
  have B1 := hide ((Below.refl w.heap.size w).grown hg1 (Nat.le_refl _) (fun k h => by cases h))
  have ST := hide (hrow1.stored 0 (.int .i64 1))
  have HG := hide hG
  have hlt1 : G < w1.heap.size := (hrow1.lt G rfl).2
  have i0 : (0 : Int) < (N : Int) := by omega
  clear ho1 hg1 hrow1 hG
  have START : Hid (Own ((w1.setCell ⟨G, 0, none⟩ (.int .i64 1)).alloc (.cells #[.int .i64 1] 3)) w.heap.size (.slice (some ⟨G, 0, none⟩) N N) (ci (bmTo s 0).c)) := by
    have h1 := ST.out.1
    have e : ((List.replicate N (0 : Int)).map (Value.int .i64)).set 0 (.int .i64 1) = (ci (bmTo s 0).c).map (Value.int .i64) := by
      rw [HN.out, bmTo, SLEN.out, List.replicate_succ]
      simp [ci]
    rw [e] at h1
    have h2 : Own (w1.setCell ⟨G, 0, none⟩ (.int .i64 1)) w.heap.size (.slice (some ⟨G, 0, none⟩) N N) (ci (bmTo s 0).c) := by
      show World.ownsRow _ _ _ _ _ (ci (bmTo s 0).c).length _
      rw [ci_length, (INV.out 0 (Nat.zero_le _)).len, ← HN.out]
      exact h1
    exact h2.alloc _
  have sz1 : (w1.setCell ⟨G, 0, none⟩ (.int .i64 1)).heap.size = w1.heap.size := by
    have := ST.out.2.size
    simp
  go_wp2
  go_loopw [6, 7, 8, 9, 37] (fun vo vl vm vg vk wr => ∃ (k : Nat) (q : Bm), k ≤ xs.length ∧ q = bmTo s k ∧ vk = .int .i64 k ∧ vl = .int .i64 (q.last : Nat) ∧ vm = .int .i64 (q.m : Nat) ∧ vg = .int .i64 (q.long : Nat) ∧ Own wr w.heap.size (.slice (some ⟨G, 0, none⟩) N N) (ci q.c) ∧ Own wr (G + 1) vo (ci q.b) ∧ Below w.heap.size w wr) (fun _ _ _ _ vk _ => xs.length - (intOf vk).toNat)
  case atStart =>
    refine ⟨0, bmTo s 0, Nat.zero_le _, rfl, rfl, rfl, rfl, rfl, START.out, ?_, ?_⟩
    · have := World.ownsRow_lit (base := G + 1) (e := 3) (size := 1) (w1.setCell ⟨G, 0, none⟩ (.int .i64 1)) #[.int .i64 1] 1 (by rw [sz1]; omega) (by decide) (by rfl)
      rw [sz1] at this
      exact this
    · exact (B1.out.setCell (by rw [HG.out]; exact Nat.le_refl _) _).alloc (by rw [sz1]; exact B1.out.size) _
  case round =>
    obtain ⟨k, q, hk, hq, rfl, rfl, rfl, rfl, hor, hoo, hb⟩ := hrel
    have OR := hide hor
    have OO := hide hoo
    have B := hide hb
    have Q := hide hq
    have IV : Hid (BmI xs.length k q) := by rw [hq]; exact INV.out k hk
    clear hor hoo hb hq
    by_cases hlt : k < xs.length
    · have hlt' : (k : Int) < (xs.length : Int) := by omega
      have hlk := IV.out.lk
      have hfit := IV.out.fit
      have hm1 := IV.out.m1
      have hlen := IV.out.len
      obtain ⟨E1, hE1⟩ : ∃ E : Nat, E = q.long + 1 := ⟨_, rfl⟩
      obtain ⟨E2, hE2⟩ : ∃ E : Nat, E = k + 1 := ⟨_, rfl⟩
      have ws1 : IntKind.i64.wrap ((q.long : Int) + 1) = (E1 : Int) := by rw [wrap_i64]; omega
      have ws2 : IntKind.i64.wrap ((k : Int) + 1) = (E2 : Int) := by rw [wrap_i64]; omega
      have f1 : (E1 : Int) ≤ (N : Int) := by omega
      have f2 : (E2 : Int) ≤ (cap : Int) := by omega
      have HE1 := hide hE1
      have HE2 := hide hE2
      obtain ⟨d, hd⟩ : ∃ d, d = bmD s k q := ⟨_, rfl⟩
      have hd256 : d < 256 := by rw [hd]; exact bmD_lt IV.out.cl
      have MO : Hid (∀ m, Calls Tryd.prog 83 #[.slice (some ⟨G, 0, none⟩) E1 N, .slice (some ⟨sb, so, none⟩) E2 cap] (wr.drewN m) fun e w' => e = .returned (.int .i64 (d : Nat)) ∧ wr.drewN m = w') := fun m => by
        have hr : Rd (wr.drewN m) (.slice (some ⟨G, 0, none⟩) E1 N) (ci (q.c.take E1)) := by
          have h1 := (OR.out.rd).below (below_drewN' m)
          have h2 := rd_takep (n := E1) (by
            have := h1
            rwa [show N = (ci q.c).length from by rw [ci_length, hlen, HN.out]] at this) (by rw [ci_length]; omega)
          rw [ci_take] at h2
          rwa [show (ci q.c).length = N from by rw [ci_length, hlen, HN.out]] at h2
        have hs2 : Rd (wr.drewN m) (.slice (some ⟨sb, so, none⟩) E2 cap) (ci (s.take E2)) := by
          have h1 := ((R.out.below B.out)).below (below_drewN' (w := wr) m)
          have h2 := rd_takep (n := E2) h1 (by omega)
          rw [← SX.out, ci_take] at h2
          exact h2
        have l1 : (q.c.take E1).length = E1 := by rw [List.length_take]; omega
        have l2 : (s.take E2).length = E2 := by rw [List.length_take, SLEN.out]; omega
        have := missOf_calls _ _ (q.c.take E1) (s.take E2) _ ((T.out.below B.out).below (below_drewN' m)) hr hs2 (AllLt.take IV.out.cl _) (AllLt.take SL.out _) (by omega) (by omega)
        have e : dsc (fn (q.c.take E1)) (fn (s.take E2)) ((s.take E2).length - 1) (q.c.take E1).length = d := by
          rw [l1, l2, hd, hE2, Nat.add_sub_cancel]
          unfold bmD
          rw [hE1]
          exact dsc_cut _ _ (by omega)
        rw [e] at this
        exact this
      have DD := hide hd
      clear hE1 hE2 hd
      go_wp2
      go_quiet ((go_at_call 83; exact quiet_same (MO.out _)))
      clear ws1 ws2 f1 f2
      by_cases hd0 : d = 0
      · have td : (((d : Nat) : Int) == 0) = true := by simp [hd0]
        have HD0 := hide hd0
        have hnx : bmTo s (k + 1) = ⟨q.c, q.b, q.last, q.m + 1, q.long⟩ := by
          rw [bmTo, ← Q.out]
          unfold bmStep
          rw [← DD.out, if_pos HD0.out]
        have NX := hide hnx
        clear hd0 hnx
        go_wp2
        go_roundw
        case rel =>
          refine ⟨k + 1, bmTo s (k + 1), by omega, rfl, by go_num, ?_, ?_, ?_, ?_, ?_, ?_⟩
          · rw [NX.out]
          · rw [NX.out]; go_num
          · rw [NX.out]
          · rw [NX.out]; exact OR.out.below (below_drewN' _)
          · rw [NX.out]; exact OO.out.below (below_drewN' _)
          · exact below_drewN B.out _
        case measure => simp [intOf]; omega
      · have td : (((d : Nat) : Int) == 0) = false := by simp [hd0]
        have HD0 := hide hd0
        clear hd0
        go_wp2_with fail
        refine (without_calls _ (ci q.c) _ (OR.out.rd.below (below_drewN' _)) (by rw [ci_length, hlen]; omega)).mono ?_
        rintro e w2 ⟨v2, rfl, ho2, hb2⟩
        have B2 := hide ((below_drewN B.out _).trans (hb2.mono (below_drewN B.out _).size))
        have OR2 := hide ((OR.out.below (below_drewN' _)).below hb2)
        have OO2 := hide ((OO.out.below (below_drewN' _)).below hb2)
        have hGw : G < wr.heap.size := (World.ownsRow.lt OR.out G rfl).2
        have OW2 : Hid (Own w2 (G + 1) v2 (ci (cutNl q.c))) := by
          have := ho2.mono (base' := G + 1) (by simp; omega)
          rw [cutL_nl] at this
          exact this
        have T2 := hide (T.out.below B2.out)
        clear ho2 hb2 OR OO B
        have hll := IV.out.ll
        go_wp2_with fail
        refine (inv_calls _ _ T2.out (by omega) (by omega)).mono ?_
        rintro e w' ⟨rfl, rfl⟩
        rw [Int.toNat_natCast]
        have hi := inv_lt q.last
        go_wp2_with fail
        refine (mulE_calls _ _ _ T2.out (by omega) (by omega) (by omega) (by omega)).mono ?_
        rintro e w' ⟨rfl, rfl⟩
        simp only [Int.toNat_natCast]
        obtain ⟨F, hF⟩ : ∃ F, F = mul d (inv q.last) := ⟨_, rfl⟩
        rw [← hF]
        have hF256 : F < 256 := by rw [hF]; exact mul_lt hd256
        have HC : Hid (amTo q.c q.b F q.m q.b.length = bmC s k q) := by rw [hF, DD.out]; rfl
        clear hF hi
        go_wp2_with fail
        refine (addMultiple_calls _ _ q.c q.b F q.m w.heap.size w2 (fun w' hg => T.out.below (B2.out.grown hg B2.out.size (fun i hi => by cases hi; rw [HG.out]; exact Nat.le_refl _))) OR2.out (fun w' hg => (own_keep4 OO2.out hg (Nat.lt_succ_self _)).rd) (by omega) (by omega) (by omega) (by omega) (by omega) IV.out.cl IV.out.bl (by omega)).mono ?_
        rintro e w3 ⟨rfl, ho3, hg3⟩
        simp only [Int.toNat_natCast] at ho3
        rw [HC.out] at ho3
        have OR3 := hide ho3
        have OO3 := hide (own_keep4 OO2.out hg3 (Nat.lt_succ_self _))
        have OW3 := hide (own_keep4 OW2.out hg3 (Nat.lt_succ_self _))
        have B3 := hide (B2.out.grown hg3 B2.out.size (fun i hi => by cases hi; rw [HG.out]; exact Nat.le_refl _))
        clear ho3 hg3 OR2 OO2 OW2 B2
        by_cases h2 : k < 2 * q.long
        · have h2' : (k : Int) < 2 * (q.long : Int) := by omega
          have NX : Hid (bmTo s (k + 1) = ⟨bmC s k q, q.b, q.last, q.m + 1, q.long⟩) := by
            rw [bmTo, ← Q.out]
            unfold bmStep
            rw [← DD.out, if_neg HD0.out, if_pos h2]
            exact hide rfl
          clear h2
          go_wp2
          go_roundw
          case rel =>
            refine ⟨k + 1, bmTo s (k + 1), by omega, rfl, by go_num, ?_, ?_, ?_, ?_, ?_, B3.out⟩
            · rw [NX.out]
            · rw [NX.out]; go_num
            · rw [NX.out]
            · rw [NX.out]; exact OR3.out
            · rw [NX.out]; exact OO3.out
          case measure => simp [intOf]; omega
        · have h2' : ¬ (k : Int) < 2 * (q.long : Int) := by omega
          have NX : Hid (bmTo s (k + 1) = ⟨bmC s k q, cutNl q.c, d, 1, k + 1 - q.long⟩) := by
            rw [bmTo, ← Q.out]
            unfold bmStep
            rw [← DD.out, if_neg HD0.out, if_neg h2]
            exact hide rfl
          clear h2
          go_wp2
          go_roundw
          case rel =>
            refine ⟨k + 1, bmTo s (k + 1), by omega, rfl, by go_num, ?_, ?_, ?_, ?_, ?_, B3.out⟩
            · rw [NX.out]
            · rw [NX.out]; rfl
            · rw [NX.out]; show _ = Value.int .i64 ((k + 1 - q.long : Nat) : Int); congr 1; omega
            · rw [NX.out]; exact OR3.out
            · rw [NX.out]; exact OW3.out
          case measure => simp [intOf]; omega
    · obtain rfl : k = xs.length := by omega
      go_wp2_with fail
      refine (without_calls _ (ci q.c) _ OR.out.rd (by rw [ci_length, IV.out.len]; omega)).mono ?_
      rintro e w2 ⟨v2, rfl, ho2, hb2⟩
      have O2 : Hid (Own w2 w.heap.size v2 (ci L)) := by
        have := ho2.mono (base' := w.heap.size) B.out.size
        rw [cutL_nl, Q.out, HL.out] at this
        exact this
      have B2 := hide (B.out.trans (hb2.mono B.out.size))
      clear ho2 hb2
      go_wp2
      go_ret2
      exact ⟨_, rfl, O2.out, B2.out⟩
theorem locatorOf_calls (v : Value) (xs : List Int) (w : World) (hT : Tab w) (h : Rd w v xs) :
    Calls Tryd.prog 26 #[v] w fun e w' => ∃ v', e = .returned (.tuple #[v', .bool (locR xs).2]) ∧ Own w' w.heap.size v' (locR xs).1 ∧ Below w.heap.size w w' := by
  cases hw : locOk xs with
  | false =>
    rw [locR_no hw]
    exact (locatorOf_no v xs w h hw).mono fun e w' ⟨he, hw⟩ => ⟨_, he, World.ownsRow_nil _ _ _ _, hw ▸ Below.refl _ _⟩
  | true =>
    rw [locR_yes hw]
    exact locatorOf_yes v xs w hT h hw
end Gf
end Go.Proofs.YtogopakmebiomaaDoor

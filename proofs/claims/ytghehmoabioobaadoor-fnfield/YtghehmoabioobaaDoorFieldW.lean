/-
  The field's law, at every drawn pair: the call returns true, and nothing that was there is written. The program's table of rests must hold its seven numbers.
-/
import Derived.Test.YtghehmoabioobaaDoorFieldB
import Derived.Test.YtghehmoabioobaaDoorFieldM
import Derived.Test.YtghehmoabioobaaDoorDraw
namespace Go.Proofs.YtghehmoabioobaaDoor
open Go.RowKit

theorem prod_a {A B p : Nat} (hp : p = Gf.mul A B) (hA : A = 0) (hB : B < 256) : ((p : Int) == 0) = true := by
  rw [hp, hA, Gf.zero_mul hB]; rfl
theorem prod_b {A B p : Nat} (hp : p = Gf.mul A B) (hB : B = 0) : ((p : Int) == 0) = true := by
  rw [hp, hB, Gf.mul_zero]; rfl
theorem prod_no {A B p : Nat} (hp : p = Gf.mul A B) (hA : A < 256) (hB : B < 256) (hA0 : ¬ A = 0) (hB0 : ¬ B = 0) : ((p : Int) == 0) = false := by
  have h : ¬ p = 0 := by
    intro e
    rw [hp] at e
    rcases Gf.mul_eq_zero A B hA hB e with h | h <;> omega
  simp; omega


set_option maxRecDepth 100000 in
set_option maxHeartbeats 6400000 in
theorem fnField_core (cv mv : Value) (w : World) (hT : Gf.Tab w) (hc : RdB w cv) (hm : RdB w mv) (hlen : ∀ a n c a' n' c', cv = .slice a n c → mv = .slice a' n' c' → (n : Int) + (n' : Int) ≤ 1048576) :
    Calls Tryd.prog 3 #[cv, mv] w fun e w' => e = .returned (.bool true) ∧ Below w.heap.size w w' := by
  have HC := hide hc
  have HM := hide hm
  have T := hide hT
  obtain ⟨ca, cc, cz, rfl, _, _, _⟩ := hc
  obtain ⟨ma, mc, mz, rfl, _, _, _⟩ := hm
  have hl := hlen _ _ _ _ _ _ rfl rfl
  have hl' : ¬ (1048576 : Int) < (cz.length : Int) + (mz.length : Int) := by omega
  clear hlen hT
  go_enter Tryd.func3, Tryd.ntmps3
  go_wp2_with fail
  refine (drawMulGf_calls _ _ HC.out).mono ?_
  rintro e w1 ⟨a, b, rfl, b1⟩
  have B1 := hide b1
  have T1 := hide (T.out.below b1)
  have M1 := hide (HM.out.below b1)
  clear b1 T
  by_cases hg : 0 ≤ a ∧ a ≤ 255 ∧ 0 ≤ b ∧ b ≤ 255
  case neg =>
    have hbad : a < 0 ∨ 255 < a ∨ b < 0 ∨ 255 < b := by omega
    have hbad0 : a < 0 ∨ 255 < a ∨ b < 0 ∨ 255 < b ∨ b = 0 := by omega
    clear hg
    go_wp2_with fail
    refine (Gf.mulGf_bad _ _ _ hbad).mono ?_
    rintro e w' ⟨rfl, rfl⟩
    go_wp2_with fail
    refine (Gf.sMulGf_bad _ _ _ hbad).mono ?_
    rintro e w' ⟨rfl, rfl⟩
    go_wp2_with fail
    refine (Gf.addGf_bad _ _ _ hbad).mono ?_
    rintro e w' ⟨rfl, rfl⟩
    go_wp2_with fail
    refine (Gf.sAddGf_bad _ _ _ hbad).mono ?_
    rintro e w' ⟨rfl, rfl⟩
    go_wp2_with fail
    refine (Gf.divGf_bad _ _ _ hbad0).mono ?_
    rintro e w' ⟨rfl, rfl⟩
    go_wp2_with fail
    refine (Gf.sDivGf_bad _ _ _ hbad0).mono ?_
    rintro e w' ⟨rfl, rfl⟩
    clear hbad hbad0
    go_wp2_with fail
    refine (drawPowGf_calls _ _ M1.out).mono ?_
    rintro e wp ⟨u, n, rfl, bp⟩
    have Bp := hide (B1.out.trans (bp.mono B1.out.size))
    have Tp := hide (T1.out.below bp)
    have Mp := hide (M1.out.below bp)
    clear bp B1 T1 M1
    obtain ⟨pr, pok, hpi, hps⟩ := Gf.pow_both u n
    have HPI := hide hpi
    have HPS := hide hps
    clear hpi hps
    go_wp2_with fail
    refine (HPI.out _ Tp.out).mono ?_
    rintro e w' ⟨rfl, rfl⟩
    go_wp2_with fail
    refine (HPS.out _).mono ?_
    rintro e w' ⟨rfl, rfl⟩
    go_wp2_with fail
    refine (drawOrderGf_calls _ _ Mp.out).mono ?_
    rintro e wo ⟨t, rfl, bo⟩
    have Bo := hide (Bp.out.trans (bo.mono Bp.out.size))
    have To := hide (Tp.out.below bo)
    clear bo Bp Tp Mp
    rcases Gf.order_both t with ⟨TT, rfl, ht0, ht1, hoi, hos⟩ | ⟨hoi, hos⟩
    · have HOI := hide hoi
      have HOS := hide hos
      clear hoi hos
      obtain ⟨f1, f2, f3, f4⟩ := Gf.ord_facts TT ht0 ht1
      obtain ⟨o, ho⟩ : ∃ o, o = Gf.ord TT := ⟨_, rfl⟩
      rw [← ho] at f1 f2 f3 f4
      have F3 := hide f3
      clear f3
      have f5 : ((255 : Int) % (o : Int) == 0) = true := by have h := congrArg (fun n : Nat => (n : Int)) f4; simpa using h
      have f6 : ((o : Int) == 0) = false := by simp; omega
      go_wp2_with fail
      refine (HOI.out _ To.out).mono ?_
      rw [← ho]
      rintro e w' ⟨rfl, rfl⟩
      go_wp2_with fail
      refine (HOS.out _).mono ?_
      rw [← ho]
      rintro e w' ⟨rfl, rfl⟩
      clear ho HOI HOS HPI HPS
      go_wp2_with fail
      refine (Gf.powGf_good _ _ _ To.out (by omega) (by omega) (by omega) (by omega)).mono ?_
      simp only [Int.toNat_natCast]
      rw [F3.out]
      rintro e w' ⟨rfl, rfl⟩
      go_wp2
      go_ret
      exact ⟨rfl, Bo.out⟩
    · have HOI := hide hoi
      have HOS := hide hos
      clear hoi hos
      go_wp2_with fail
      refine (HOI.out _ To.out).mono ?_
      rintro e w' ⟨rfl, rfl⟩
      go_wp2_with fail
      refine (HOS.out _).mono ?_
      rintro e w' ⟨rfl, rfl⟩
      go_wp2
      go_ret
      exact ⟨rfl, Bo.out⟩
  obtain ⟨A, rfl⟩ := Int.eq_ofNat_of_zero_le hg.1
  obtain ⟨B, rfl⟩ := Int.eq_ofNat_of_zero_le hg.2.2.1
  have hA : A < 256 := by omega
  have hB : B < 256 := by omega
  clear hg
  by_cases hA0 : A = 0
  · by_cases hB0 : B = 0
    · have iA : (A : Int) ≤ 255 := by omega
      have iB : (B : Int) ≤ 255 := by omega
      have tA : ((A : Int) == 0) = true := by simp; omega
      have tB : ((B : Int) == 0) = true := by simp; omega
      have gA : ¬ (0 : Int) < (A : Int) := by omega
      have gB : ¬ (0 : Int) < (B : Int) := by omega
      obtain ⟨p, hp⟩ : ∃ p, p = Gf.mul A B := ⟨_, rfl⟩
      have hp256 : p < 256 := by rw [hp]; exact Gf.mul_lt hA
      have HP := hide hp
      have tP : ((p : Int) == 0) = true := prod_a hp hA0 hB
      clear hp
      have HA0 := hide hA0
      clear hA0
      have HB0 := hide hB0
      clear hB0
      obtain ⟨s, hs⟩ : ∃ s, s = A ^^^ B := ⟨_, rfl⟩
      have HSm := hide hs
      clear hs
      go_wp2_with fail
      refine (Gf.mulGf_good _ _ _ T1.out (by omega) (by omega) (by omega) (by omega)).mono ?_
      simp only [Int.toNat_natCast]
      rw [← HP.out]
      rintro e w' ⟨rfl, rfl⟩
      go_wp2_with fail
      refine (Gf.sMulGf_good _ _ _ (by omega) (by omega) (by omega) (by omega)).mono ?_
      simp only [Int.toNat_natCast]
      rw [← HP.out]
      rintro e w' ⟨rfl, rfl⟩
      go_wp2_with fail
      refine (Gf.addGf_good _ _ _ (by omega) (by omega) (by omega) (by omega)).mono ?_
      simp only [Int.toNat_natCast]
      rw [← HSm.out]
      rintro e w' ⟨rfl, rfl⟩
      go_wp2_with fail
      refine (Gf.sAddGf_good _ _ _ (by omega) (by omega) (by omega) (by omega)).mono ?_
      simp only [Int.toNat_natCast]
      rw [← HSm.out]
      rintro e w' ⟨rfl, rfl⟩
      go_wp2_with fail
      refine (Gf.divGf_bad _ _ _ (by have := HB0.out; omega)).mono ?_
      rintro e w' ⟨rfl, rfl⟩
      go_wp2_with fail
      refine (Gf.sDivGf_bad _ _ _ (by have := HB0.out; omega)).mono ?_
      rintro e w' ⟨rfl, rfl⟩
      go_wp2_with fail
      refine (numberOf_calls _ _ M1.out).mono ?_
      rintro e w' ⟨N, hN, rfl, rfl⟩
      obtain ⟨c, hc, hc256⟩ : ∃ c : Nat, (N : Int) % 256 = (c : Int) ∧ c < 256 := ⟨N % 256, by omega, by omega⟩
      have ic : (c : Int) ≤ 255 := by omega
      go_wp2_with fail
      refine (Gf.mulGf_good _ _ _ T1.out (by omega) (by omega) (by omega) (by omega)).mono ?_
      simp only [Int.toNat_natCast]
      rw [Gf.mul_comm B A hB hA]
      rw [← HP.out]
      rintro e w' ⟨rfl, rfl⟩
      obtain ⟨l, hl⟩ : ∃ l, l = Gf.mul p c := ⟨_, rfl⟩
      have hl256 : l < 256 := by rw [hl]; exact Gf.mul_lt hp256
      have Hl := hide hl
      clear hl
      obtain ⟨bc, hbc⟩ : ∃ bc, bc = Gf.mul B c := ⟨_, rfl⟩
      have hbc256 : bc < 256 := by rw [hbc]; exact Gf.mul_lt hB
      have Hbc := hide hbc
      clear hbc
      have EL : Hid (Gf.mul A bc = l) := by
        show _ = _
        rw [Hbc.out, Hl.out, HP.out]
        exact (Gf.mul_assoc A B c hA hB hc256).symm
      go_wp2_with fail
      refine (Gf.mulGf_good _ _ _ T1.out (by omega) (by omega) (by omega) (by omega)).mono ?_
      simp only [Int.toNat_natCast]
      rw [← Hl.out]
      rintro e w' ⟨rfl, rfl⟩
      go_wp2_with fail
      refine (Gf.mulGf_good _ _ _ T1.out (by omega) (by omega) (by omega) (by omega)).mono ?_
      simp only [Int.toNat_natCast]
      rw [← Hbc.out]
      rintro e w' ⟨rfl, rfl⟩
      go_wp2_with fail
      refine (Gf.mulGf_good _ _ _ T1.out (by omega) (by omega) (by omega) (by omega)).mono ?_
      simp only [Int.toNat_natCast]
      rw [EL.out]
      rintro e w' ⟨rfl, rfl⟩
      obtain ⟨bs, hbs⟩ : ∃ bs, bs = B ^^^ c := ⟨_, rfl⟩
      have hbs256 : bs < 256 := by rw [hbs]; exact Nat.xor_lt_two_pow (n := 8) hB hc256
      have Hbs := hide hbs
      clear hbs
      obtain ⟨x, hx⟩ : ∃ x, x = Gf.mul A bs := ⟨_, rfl⟩
      have hx256 : x < 256 := by rw [hx]; exact Gf.mul_lt hA
      have Hx := hide hx
      clear hx
      obtain ⟨ac, hac⟩ : ∃ ac, ac = Gf.mul A c := ⟨_, rfl⟩
      have hac256 : ac < 256 := by rw [hac]; exact Gf.mul_lt hA
      have Hac := hide hac
      clear hac
      have EX : Hid (p ^^^ ac = x) := by
        show _ = _
        rw [Hx.out, Hbs.out, Hac.out, HP.out]
        exact (Gf.mul_xor_b A B c).symm
      go_wp2_with fail
      refine (Gf.addGf_good _ _ _ (by omega) (by omega) (by omega) (by omega)).mono ?_
      simp only [Int.toNat_natCast]
      rw [← Hbs.out]
      rintro e w' ⟨rfl, rfl⟩
      go_wp2_with fail
      refine (Gf.mulGf_good _ _ _ T1.out (by omega) (by omega) (by omega) (by omega)).mono ?_
      simp only [Int.toNat_natCast]
      rw [← Hx.out]
      rintro e w' ⟨rfl, rfl⟩
      go_wp2_with fail
      refine (Gf.mulGf_good _ _ _ T1.out (by omega) (by omega) (by omega) (by omega)).mono ?_
      simp only [Int.toNat_natCast]
      rw [← Hac.out]
      rintro e w' ⟨rfl, rfl⟩
      go_wp2_with fail
      refine (Gf.addGf_good _ _ _ (by omega) (by omega) (by omega) (by omega)).mono ?_
      simp only [Int.toNat_natCast]
      rw [EX.out]
      rintro e w' ⟨rfl, rfl⟩
      go_wp2_with fail
      refine (drawPowGf_calls _ _ M1.out).mono ?_
      rintro e wp ⟨u, n, rfl, bp⟩
      have Bp := hide (B1.out.trans (bp.mono B1.out.size))
      have Tp := hide (T1.out.below bp)
      have Mp := hide (M1.out.below bp)
      clear bp B1 T1 M1
      obtain ⟨pr, pok, hpi, hps⟩ := Gf.pow_both u n
      have HPI := hide hpi
      have HPS := hide hps
      clear hpi hps
      go_wp2_with fail
      refine (HPI.out _ Tp.out).mono ?_
      rintro e w' ⟨rfl, rfl⟩
      go_wp2_with fail
      refine (HPS.out _).mono ?_
      rintro e w' ⟨rfl, rfl⟩
      go_wp2_with fail
      refine (drawOrderGf_calls _ _ Mp.out).mono ?_
      rintro e wo ⟨t, rfl, bo⟩
      have Bo := hide (Bp.out.trans (bo.mono Bp.out.size))
      have To := hide (Tp.out.below bo)
      clear bo Bp Tp Mp
      rcases Gf.order_both t with ⟨TT, rfl, ht0, ht1, hoi, hos⟩ | ⟨hoi, hos⟩
      · have HOI := hide hoi
        have HOS := hide hos
        clear hoi hos
        obtain ⟨f1, f2, f3, f4⟩ := Gf.ord_facts TT ht0 ht1
        obtain ⟨o, ho⟩ : ∃ o, o = Gf.ord TT := ⟨_, rfl⟩
        rw [← ho] at f1 f2 f3 f4
        have F3 := hide f3
        clear f3
        have f5 : ((255 : Int) % (o : Int) == 0) = true := by have h := congrArg (fun n : Nat => (n : Int)) f4; simpa using h
        have f6 : ((o : Int) == 0) = false := by simp; omega
        go_wp2_with fail
        refine (HOI.out _ To.out).mono ?_
        rw [← ho]
        rintro e w' ⟨rfl, rfl⟩
        go_wp2_with fail
        refine (HOS.out _).mono ?_
        rw [← ho]
        rintro e w' ⟨rfl, rfl⟩
        clear ho HOI HOS HPI HPS
        go_wp2_with fail
        refine (Gf.powGf_good _ _ _ To.out (by omega) (by omega) (by omega) (by omega)).mono ?_
        simp only [Int.toNat_natCast]
        rw [F3.out]
        rintro e w' ⟨rfl, rfl⟩
        go_wp2
        go_ret
        exact ⟨rfl, Bo.out⟩
      · have HOI := hide hoi
        have HOS := hide hos
        clear hoi hos
        go_wp2_with fail
        refine (HOI.out _ To.out).mono ?_
        rintro e w' ⟨rfl, rfl⟩
        go_wp2_with fail
        refine (HOS.out _).mono ?_
        rintro e w' ⟨rfl, rfl⟩
        go_wp2
        go_ret
        exact ⟨rfl, Bo.out⟩
    · have iA : (A : Int) ≤ 255 := by omega
      have iB : (B : Int) ≤ 255 := by omega
      have tA : ((A : Int) == 0) = true := by simp; omega
      have tB : ((B : Int) == 0) = false := by simp; omega
      have gA : ¬ (0 : Int) < (A : Int) := by omega
      have gB : (0 : Int) < (B : Int) := by omega
      obtain ⟨p, hp⟩ : ∃ p, p = Gf.mul A B := ⟨_, rfl⟩
      have hp256 : p < 256 := by rw [hp]; exact Gf.mul_lt hA
      have HP := hide hp
      have tP : ((p : Int) == 0) = true := prod_a hp hA0 hB
      clear hp
      have HA0 := hide hA0
      clear hA0
      obtain ⟨s, hs⟩ : ∃ s, s = A ^^^ B := ⟨_, rfl⟩
      have HSm := hide hs
      clear hs
      go_wp2_with fail
      refine (Gf.mulGf_good _ _ _ T1.out (by omega) (by omega) (by omega) (by omega)).mono ?_
      simp only [Int.toNat_natCast]
      rw [← HP.out]
      rintro e w' ⟨rfl, rfl⟩
      go_wp2_with fail
      refine (Gf.sMulGf_good _ _ _ (by omega) (by omega) (by omega) (by omega)).mono ?_
      simp only [Int.toNat_natCast]
      rw [← HP.out]
      rintro e w' ⟨rfl, rfl⟩
      go_wp2_with fail
      refine (Gf.addGf_good _ _ _ (by omega) (by omega) (by omega) (by omega)).mono ?_
      simp only [Int.toNat_natCast]
      rw [← HSm.out]
      rintro e w' ⟨rfl, rfl⟩
      go_wp2_with fail
      refine (Gf.sAddGf_good _ _ _ (by omega) (by omega) (by omega) (by omega)).mono ?_
      simp only [Int.toNat_natCast]
      rw [← HSm.out]
      rintro e w' ⟨rfl, rfl⟩
      obtain ⟨d, hd⟩ : ∃ d, d = Gf.mul A (Gf.inv B) := ⟨_, rfl⟩
      have hd256 : d < 256 := by rw [hd]; exact Gf.mul_lt hA
      have HD := hide hd
      clear hd
      go_wp2_with fail
      refine (Gf.divGf_good _ _ _ T1.out (by omega) (by omega) (by omega) (by omega)).mono ?_
      simp only [Int.toNat_natCast]
      rw [← HD.out]
      rintro e w' ⟨rfl, rfl⟩
      go_wp2_with fail
      refine (Gf.sDivGf_good _ _ _ (by omega) (by omega) (by omega) (by omega)).mono ?_
      simp only [Int.toNat_natCast]
      rw [← HD.out]
      rintro e w' ⟨rfl, rfl⟩
      go_wp2_with fail
      refine (numberOf_calls _ _ M1.out).mono ?_
      rintro e w' ⟨N, hN, rfl, rfl⟩
      obtain ⟨c, hc, hc256⟩ : ∃ c : Nat, (N : Int) % 256 = (c : Int) ∧ c < 256 := ⟨N % 256, by omega, by omega⟩
      have ic : (c : Int) ≤ 255 := by omega
      go_wp2_with fail
      refine (Gf.mulGf_good _ _ _ T1.out (by omega) (by omega) (by omega) (by omega)).mono ?_
      simp only [Int.toNat_natCast]
      rw [Gf.mul_comm B A hB hA]
      rw [← HP.out]
      rintro e w' ⟨rfl, rfl⟩
      obtain ⟨l, hl⟩ : ∃ l, l = Gf.mul p c := ⟨_, rfl⟩
      have hl256 : l < 256 := by rw [hl]; exact Gf.mul_lt hp256
      have Hl := hide hl
      clear hl
      obtain ⟨bc, hbc⟩ : ∃ bc, bc = Gf.mul B c := ⟨_, rfl⟩
      have hbc256 : bc < 256 := by rw [hbc]; exact Gf.mul_lt hB
      have Hbc := hide hbc
      clear hbc
      have EL : Hid (Gf.mul A bc = l) := by
        show _ = _
        rw [Hbc.out, Hl.out, HP.out]
        exact (Gf.mul_assoc A B c hA hB hc256).symm
      go_wp2_with fail
      refine (Gf.mulGf_good _ _ _ T1.out (by omega) (by omega) (by omega) (by omega)).mono ?_
      simp only [Int.toNat_natCast]
      rw [← Hl.out]
      rintro e w' ⟨rfl, rfl⟩
      go_wp2_with fail
      refine (Gf.mulGf_good _ _ _ T1.out (by omega) (by omega) (by omega) (by omega)).mono ?_
      simp only [Int.toNat_natCast]
      rw [← Hbc.out]
      rintro e w' ⟨rfl, rfl⟩
      go_wp2_with fail
      refine (Gf.mulGf_good _ _ _ T1.out (by omega) (by omega) (by omega) (by omega)).mono ?_
      simp only [Int.toNat_natCast]
      rw [EL.out]
      rintro e w' ⟨rfl, rfl⟩
      obtain ⟨bs, hbs⟩ : ∃ bs, bs = B ^^^ c := ⟨_, rfl⟩
      have hbs256 : bs < 256 := by rw [hbs]; exact Nat.xor_lt_two_pow (n := 8) hB hc256
      have Hbs := hide hbs
      clear hbs
      obtain ⟨x, hx⟩ : ∃ x, x = Gf.mul A bs := ⟨_, rfl⟩
      have hx256 : x < 256 := by rw [hx]; exact Gf.mul_lt hA
      have Hx := hide hx
      clear hx
      obtain ⟨ac, hac⟩ : ∃ ac, ac = Gf.mul A c := ⟨_, rfl⟩
      have hac256 : ac < 256 := by rw [hac]; exact Gf.mul_lt hA
      have Hac := hide hac
      clear hac
      have EX : Hid (p ^^^ ac = x) := by
        show _ = _
        rw [Hx.out, Hbs.out, Hac.out, HP.out]
        exact (Gf.mul_xor_b A B c).symm
      go_wp2_with fail
      refine (Gf.addGf_good _ _ _ (by omega) (by omega) (by omega) (by omega)).mono ?_
      simp only [Int.toNat_natCast]
      rw [← Hbs.out]
      rintro e w' ⟨rfl, rfl⟩
      go_wp2_with fail
      refine (Gf.mulGf_good _ _ _ T1.out (by omega) (by omega) (by omega) (by omega)).mono ?_
      simp only [Int.toNat_natCast]
      rw [← Hx.out]
      rintro e w' ⟨rfl, rfl⟩
      go_wp2_with fail
      refine (Gf.mulGf_good _ _ _ T1.out (by omega) (by omega) (by omega) (by omega)).mono ?_
      simp only [Int.toNat_natCast]
      rw [← Hac.out]
      rintro e w' ⟨rfl, rfl⟩
      go_wp2_with fail
      refine (Gf.addGf_good _ _ _ (by omega) (by omega) (by omega) (by omega)).mono ?_
      simp only [Int.toNat_natCast]
      rw [EX.out]
      rintro e w' ⟨rfl, rfl⟩
      have ED : Hid (Gf.mul d B = A) := by
        show _ = _
        rw [HD.out, Gf.mul_assoc _ _ _ hA (Gf.inv_lt _) hB, Gf.mul_comm _ _ (Gf.inv_lt _) hB, Gf.mul_inv B hB (by omega), Gf.mul_one A hA]
      go_wp2_with fail
      refine (Gf.mulGf_good _ _ _ T1.out (by omega) (by omega) (by omega) (by omega)).mono ?_
      simp only [Int.toNat_natCast]
      rw [ED.out]
      rintro e w' ⟨rfl, rfl⟩
      go_wp2_with fail
      refine (drawPowGf_calls _ _ M1.out).mono ?_
      rintro e wp ⟨u, n, rfl, bp⟩
      have Bp := hide (B1.out.trans (bp.mono B1.out.size))
      have Tp := hide (T1.out.below bp)
      have Mp := hide (M1.out.below bp)
      clear bp B1 T1 M1
      obtain ⟨pr, pok, hpi, hps⟩ := Gf.pow_both u n
      have HPI := hide hpi
      have HPS := hide hps
      clear hpi hps
      go_wp2_with fail
      refine (HPI.out _ Tp.out).mono ?_
      rintro e w' ⟨rfl, rfl⟩
      go_wp2_with fail
      refine (HPS.out _).mono ?_
      rintro e w' ⟨rfl, rfl⟩
      go_wp2_with fail
      refine (drawOrderGf_calls _ _ Mp.out).mono ?_
      rintro e wo ⟨t, rfl, bo⟩
      have Bo := hide (Bp.out.trans (bo.mono Bp.out.size))
      have To := hide (Tp.out.below bo)
      clear bo Bp Tp Mp
      rcases Gf.order_both t with ⟨TT, rfl, ht0, ht1, hoi, hos⟩ | ⟨hoi, hos⟩
      · have HOI := hide hoi
        have HOS := hide hos
        clear hoi hos
        obtain ⟨f1, f2, f3, f4⟩ := Gf.ord_facts TT ht0 ht1
        obtain ⟨o, ho⟩ : ∃ o, o = Gf.ord TT := ⟨_, rfl⟩
        rw [← ho] at f1 f2 f3 f4
        have F3 := hide f3
        clear f3
        have f5 : ((255 : Int) % (o : Int) == 0) = true := by have h := congrArg (fun n : Nat => (n : Int)) f4; simpa using h
        have f6 : ((o : Int) == 0) = false := by simp; omega
        go_wp2_with fail
        refine (HOI.out _ To.out).mono ?_
        rw [← ho]
        rintro e w' ⟨rfl, rfl⟩
        go_wp2_with fail
        refine (HOS.out _).mono ?_
        rw [← ho]
        rintro e w' ⟨rfl, rfl⟩
        clear ho HOI HOS HPI HPS
        go_wp2_with fail
        refine (Gf.powGf_good _ _ _ To.out (by omega) (by omega) (by omega) (by omega)).mono ?_
        simp only [Int.toNat_natCast]
        rw [F3.out]
        rintro e w' ⟨rfl, rfl⟩
        go_wp2
        go_ret
        exact ⟨rfl, Bo.out⟩
      · have HOI := hide hoi
        have HOS := hide hos
        clear hoi hos
        go_wp2_with fail
        refine (HOI.out _ To.out).mono ?_
        rintro e w' ⟨rfl, rfl⟩
        go_wp2_with fail
        refine (HOS.out _).mono ?_
        rintro e w' ⟨rfl, rfl⟩
        go_wp2
        go_ret
        exact ⟨rfl, Bo.out⟩
  · by_cases hB0 : B = 0
    · have iA : (A : Int) ≤ 255 := by omega
      have iB : (B : Int) ≤ 255 := by omega
      have tA : ((A : Int) == 0) = false := by simp; omega
      have tB : ((B : Int) == 0) = true := by simp; omega
      have gA : (0 : Int) < (A : Int) := by omega
      have gB : ¬ (0 : Int) < (B : Int) := by omega
      obtain ⟨p, hp⟩ : ∃ p, p = Gf.mul A B := ⟨_, rfl⟩
      have hp256 : p < 256 := by rw [hp]; exact Gf.mul_lt hA
      have HP := hide hp
      have tP : ((p : Int) == 0) = true := prod_b hp hB0
      clear hp
      have HB0 := hide hB0
      clear hB0
      obtain ⟨s, hs⟩ : ∃ s, s = A ^^^ B := ⟨_, rfl⟩
      have HSm := hide hs
      clear hs
      go_wp2_with fail
      refine (Gf.mulGf_good _ _ _ T1.out (by omega) (by omega) (by omega) (by omega)).mono ?_
      simp only [Int.toNat_natCast]
      rw [← HP.out]
      rintro e w' ⟨rfl, rfl⟩
      go_wp2_with fail
      refine (Gf.sMulGf_good _ _ _ (by omega) (by omega) (by omega) (by omega)).mono ?_
      simp only [Int.toNat_natCast]
      rw [← HP.out]
      rintro e w' ⟨rfl, rfl⟩
      go_wp2_with fail
      refine (Gf.addGf_good _ _ _ (by omega) (by omega) (by omega) (by omega)).mono ?_
      simp only [Int.toNat_natCast]
      rw [← HSm.out]
      rintro e w' ⟨rfl, rfl⟩
      go_wp2_with fail
      refine (Gf.sAddGf_good _ _ _ (by omega) (by omega) (by omega) (by omega)).mono ?_
      simp only [Int.toNat_natCast]
      rw [← HSm.out]
      rintro e w' ⟨rfl, rfl⟩
      go_wp2_with fail
      refine (Gf.divGf_bad _ _ _ (by have := HB0.out; omega)).mono ?_
      rintro e w' ⟨rfl, rfl⟩
      go_wp2_with fail
      refine (Gf.sDivGf_bad _ _ _ (by have := HB0.out; omega)).mono ?_
      rintro e w' ⟨rfl, rfl⟩
      go_wp2_with fail
      refine (numberOf_calls _ _ M1.out).mono ?_
      rintro e w' ⟨N, hN, rfl, rfl⟩
      obtain ⟨c, hc, hc256⟩ : ∃ c : Nat, (N : Int) % 256 = (c : Int) ∧ c < 256 := ⟨N % 256, by omega, by omega⟩
      have ic : (c : Int) ≤ 255 := by omega
      go_wp2_with fail
      refine (Gf.mulGf_good _ _ _ T1.out (by omega) (by omega) (by omega) (by omega)).mono ?_
      simp only [Int.toNat_natCast]
      rw [Gf.mul_comm B A hB hA]
      rw [← HP.out]
      rintro e w' ⟨rfl, rfl⟩
      obtain ⟨l, hl⟩ : ∃ l, l = Gf.mul p c := ⟨_, rfl⟩
      have hl256 : l < 256 := by rw [hl]; exact Gf.mul_lt hp256
      have Hl := hide hl
      clear hl
      obtain ⟨bc, hbc⟩ : ∃ bc, bc = Gf.mul B c := ⟨_, rfl⟩
      have hbc256 : bc < 256 := by rw [hbc]; exact Gf.mul_lt hB
      have Hbc := hide hbc
      clear hbc
      have EL : Hid (Gf.mul A bc = l) := by
        show _ = _
        rw [Hbc.out, Hl.out, HP.out]
        exact (Gf.mul_assoc A B c hA hB hc256).symm
      go_wp2_with fail
      refine (Gf.mulGf_good _ _ _ T1.out (by omega) (by omega) (by omega) (by omega)).mono ?_
      simp only [Int.toNat_natCast]
      rw [← Hl.out]
      rintro e w' ⟨rfl, rfl⟩
      go_wp2_with fail
      refine (Gf.mulGf_good _ _ _ T1.out (by omega) (by omega) (by omega) (by omega)).mono ?_
      simp only [Int.toNat_natCast]
      rw [← Hbc.out]
      rintro e w' ⟨rfl, rfl⟩
      go_wp2_with fail
      refine (Gf.mulGf_good _ _ _ T1.out (by omega) (by omega) (by omega) (by omega)).mono ?_
      simp only [Int.toNat_natCast]
      rw [EL.out]
      rintro e w' ⟨rfl, rfl⟩
      obtain ⟨bs, hbs⟩ : ∃ bs, bs = B ^^^ c := ⟨_, rfl⟩
      have hbs256 : bs < 256 := by rw [hbs]; exact Nat.xor_lt_two_pow (n := 8) hB hc256
      have Hbs := hide hbs
      clear hbs
      obtain ⟨x, hx⟩ : ∃ x, x = Gf.mul A bs := ⟨_, rfl⟩
      have hx256 : x < 256 := by rw [hx]; exact Gf.mul_lt hA
      have Hx := hide hx
      clear hx
      obtain ⟨ac, hac⟩ : ∃ ac, ac = Gf.mul A c := ⟨_, rfl⟩
      have hac256 : ac < 256 := by rw [hac]; exact Gf.mul_lt hA
      have Hac := hide hac
      clear hac
      have EX : Hid (p ^^^ ac = x) := by
        show _ = _
        rw [Hx.out, Hbs.out, Hac.out, HP.out]
        exact (Gf.mul_xor_b A B c).symm
      go_wp2_with fail
      refine (Gf.addGf_good _ _ _ (by omega) (by omega) (by omega) (by omega)).mono ?_
      simp only [Int.toNat_natCast]
      rw [← Hbs.out]
      rintro e w' ⟨rfl, rfl⟩
      go_wp2_with fail
      refine (Gf.mulGf_good _ _ _ T1.out (by omega) (by omega) (by omega) (by omega)).mono ?_
      simp only [Int.toNat_natCast]
      rw [← Hx.out]
      rintro e w' ⟨rfl, rfl⟩
      go_wp2_with fail
      refine (Gf.mulGf_good _ _ _ T1.out (by omega) (by omega) (by omega) (by omega)).mono ?_
      simp only [Int.toNat_natCast]
      rw [← Hac.out]
      rintro e w' ⟨rfl, rfl⟩
      go_wp2_with fail
      refine (Gf.addGf_good _ _ _ (by omega) (by omega) (by omega) (by omega)).mono ?_
      simp only [Int.toNat_natCast]
      rw [EX.out]
      rintro e w' ⟨rfl, rfl⟩
      go_wp2_with fail
      refine (drawPowGf_calls _ _ M1.out).mono ?_
      rintro e wp ⟨u, n, rfl, bp⟩
      have Bp := hide (B1.out.trans (bp.mono B1.out.size))
      have Tp := hide (T1.out.below bp)
      have Mp := hide (M1.out.below bp)
      clear bp B1 T1 M1
      obtain ⟨pr, pok, hpi, hps⟩ := Gf.pow_both u n
      have HPI := hide hpi
      have HPS := hide hps
      clear hpi hps
      go_wp2_with fail
      refine (HPI.out _ Tp.out).mono ?_
      rintro e w' ⟨rfl, rfl⟩
      go_wp2_with fail
      refine (HPS.out _).mono ?_
      rintro e w' ⟨rfl, rfl⟩
      go_wp2_with fail
      refine (drawOrderGf_calls _ _ Mp.out).mono ?_
      rintro e wo ⟨t, rfl, bo⟩
      have Bo := hide (Bp.out.trans (bo.mono Bp.out.size))
      have To := hide (Tp.out.below bo)
      clear bo Bp Tp Mp
      rcases Gf.order_both t with ⟨TT, rfl, ht0, ht1, hoi, hos⟩ | ⟨hoi, hos⟩
      · have HOI := hide hoi
        have HOS := hide hos
        clear hoi hos
        obtain ⟨f1, f2, f3, f4⟩ := Gf.ord_facts TT ht0 ht1
        obtain ⟨o, ho⟩ : ∃ o, o = Gf.ord TT := ⟨_, rfl⟩
        rw [← ho] at f1 f2 f3 f4
        have F3 := hide f3
        clear f3
        have f5 : ((255 : Int) % (o : Int) == 0) = true := by have h := congrArg (fun n : Nat => (n : Int)) f4; simpa using h
        have f6 : ((o : Int) == 0) = false := by simp; omega
        go_wp2_with fail
        refine (HOI.out _ To.out).mono ?_
        rw [← ho]
        rintro e w' ⟨rfl, rfl⟩
        go_wp2_with fail
        refine (HOS.out _).mono ?_
        rw [← ho]
        rintro e w' ⟨rfl, rfl⟩
        clear ho HOI HOS HPI HPS
        go_wp2_with fail
        refine (Gf.powGf_good _ _ _ To.out (by omega) (by omega) (by omega) (by omega)).mono ?_
        simp only [Int.toNat_natCast]
        rw [F3.out]
        rintro e w' ⟨rfl, rfl⟩
        go_wp2
        go_ret
        exact ⟨rfl, Bo.out⟩
      · have HOI := hide hoi
        have HOS := hide hos
        clear hoi hos
        go_wp2_with fail
        refine (HOI.out _ To.out).mono ?_
        rintro e w' ⟨rfl, rfl⟩
        go_wp2_with fail
        refine (HOS.out _).mono ?_
        rintro e w' ⟨rfl, rfl⟩
        go_wp2
        go_ret
        exact ⟨rfl, Bo.out⟩
    · have iA : (A : Int) ≤ 255 := by omega
      have iB : (B : Int) ≤ 255 := by omega
      have tA : ((A : Int) == 0) = false := by simp; omega
      have tB : ((B : Int) == 0) = false := by simp; omega
      have gA : (0 : Int) < (A : Int) := by omega
      have gB : (0 : Int) < (B : Int) := by omega
      obtain ⟨p, hp⟩ : ∃ p, p = Gf.mul A B := ⟨_, rfl⟩
      have hp256 : p < 256 := by rw [hp]; exact Gf.mul_lt hA
      have HP := hide hp
      have tP : ((p : Int) == 0) = false := prod_no hp hA hB hA0 hB0
      clear hp
      obtain ⟨s, hs⟩ : ∃ s, s = A ^^^ B := ⟨_, rfl⟩
      have HSm := hide hs
      clear hs
      go_wp2_with fail
      refine (Gf.mulGf_good _ _ _ T1.out (by omega) (by omega) (by omega) (by omega)).mono ?_
      simp only [Int.toNat_natCast]
      rw [← HP.out]
      rintro e w' ⟨rfl, rfl⟩
      go_wp2_with fail
      refine (Gf.sMulGf_good _ _ _ (by omega) (by omega) (by omega) (by omega)).mono ?_
      simp only [Int.toNat_natCast]
      rw [← HP.out]
      rintro e w' ⟨rfl, rfl⟩
      go_wp2_with fail
      refine (Gf.addGf_good _ _ _ (by omega) (by omega) (by omega) (by omega)).mono ?_
      simp only [Int.toNat_natCast]
      rw [← HSm.out]
      rintro e w' ⟨rfl, rfl⟩
      go_wp2_with fail
      refine (Gf.sAddGf_good _ _ _ (by omega) (by omega) (by omega) (by omega)).mono ?_
      simp only [Int.toNat_natCast]
      rw [← HSm.out]
      rintro e w' ⟨rfl, rfl⟩
      obtain ⟨d, hd⟩ : ∃ d, d = Gf.mul A (Gf.inv B) := ⟨_, rfl⟩
      have hd256 : d < 256 := by rw [hd]; exact Gf.mul_lt hA
      have HD := hide hd
      clear hd
      go_wp2_with fail
      refine (Gf.divGf_good _ _ _ T1.out (by omega) (by omega) (by omega) (by omega)).mono ?_
      simp only [Int.toNat_natCast]
      rw [← HD.out]
      rintro e w' ⟨rfl, rfl⟩
      go_wp2_with fail
      refine (Gf.sDivGf_good _ _ _ (by omega) (by omega) (by omega) (by omega)).mono ?_
      simp only [Int.toNat_natCast]
      rw [← HD.out]
      rintro e w' ⟨rfl, rfl⟩
      go_wp2_with fail
      refine (numberOf_calls _ _ M1.out).mono ?_
      rintro e w' ⟨N, hN, rfl, rfl⟩
      obtain ⟨c, hc, hc256⟩ : ∃ c : Nat, (N : Int) % 256 = (c : Int) ∧ c < 256 := ⟨N % 256, by omega, by omega⟩
      have ic : (c : Int) ≤ 255 := by omega
      go_wp2_with fail
      refine (Gf.mulGf_good _ _ _ T1.out (by omega) (by omega) (by omega) (by omega)).mono ?_
      simp only [Int.toNat_natCast]
      rw [Gf.mul_comm B A hB hA]
      rw [← HP.out]
      rintro e w' ⟨rfl, rfl⟩
      obtain ⟨l, hl⟩ : ∃ l, l = Gf.mul p c := ⟨_, rfl⟩
      have hl256 : l < 256 := by rw [hl]; exact Gf.mul_lt hp256
      have Hl := hide hl
      clear hl
      obtain ⟨bc, hbc⟩ : ∃ bc, bc = Gf.mul B c := ⟨_, rfl⟩
      have hbc256 : bc < 256 := by rw [hbc]; exact Gf.mul_lt hB
      have Hbc := hide hbc
      clear hbc
      have EL : Hid (Gf.mul A bc = l) := by
        show _ = _
        rw [Hbc.out, Hl.out, HP.out]
        exact (Gf.mul_assoc A B c hA hB hc256).symm
      go_wp2_with fail
      refine (Gf.mulGf_good _ _ _ T1.out (by omega) (by omega) (by omega) (by omega)).mono ?_
      simp only [Int.toNat_natCast]
      rw [← Hl.out]
      rintro e w' ⟨rfl, rfl⟩
      go_wp2_with fail
      refine (Gf.mulGf_good _ _ _ T1.out (by omega) (by omega) (by omega) (by omega)).mono ?_
      simp only [Int.toNat_natCast]
      rw [← Hbc.out]
      rintro e w' ⟨rfl, rfl⟩
      go_wp2_with fail
      refine (Gf.mulGf_good _ _ _ T1.out (by omega) (by omega) (by omega) (by omega)).mono ?_
      simp only [Int.toNat_natCast]
      rw [EL.out]
      rintro e w' ⟨rfl, rfl⟩
      obtain ⟨bs, hbs⟩ : ∃ bs, bs = B ^^^ c := ⟨_, rfl⟩
      have hbs256 : bs < 256 := by rw [hbs]; exact Nat.xor_lt_two_pow (n := 8) hB hc256
      have Hbs := hide hbs
      clear hbs
      obtain ⟨x, hx⟩ : ∃ x, x = Gf.mul A bs := ⟨_, rfl⟩
      have hx256 : x < 256 := by rw [hx]; exact Gf.mul_lt hA
      have Hx := hide hx
      clear hx
      obtain ⟨ac, hac⟩ : ∃ ac, ac = Gf.mul A c := ⟨_, rfl⟩
      have hac256 : ac < 256 := by rw [hac]; exact Gf.mul_lt hA
      have Hac := hide hac
      clear hac
      have EX : Hid (p ^^^ ac = x) := by
        show _ = _
        rw [Hx.out, Hbs.out, Hac.out, HP.out]
        exact (Gf.mul_xor_b A B c).symm
      go_wp2_with fail
      refine (Gf.addGf_good _ _ _ (by omega) (by omega) (by omega) (by omega)).mono ?_
      simp only [Int.toNat_natCast]
      rw [← Hbs.out]
      rintro e w' ⟨rfl, rfl⟩
      go_wp2_with fail
      refine (Gf.mulGf_good _ _ _ T1.out (by omega) (by omega) (by omega) (by omega)).mono ?_
      simp only [Int.toNat_natCast]
      rw [← Hx.out]
      rintro e w' ⟨rfl, rfl⟩
      go_wp2_with fail
      refine (Gf.mulGf_good _ _ _ T1.out (by omega) (by omega) (by omega) (by omega)).mono ?_
      simp only [Int.toNat_natCast]
      rw [← Hac.out]
      rintro e w' ⟨rfl, rfl⟩
      go_wp2_with fail
      refine (Gf.addGf_good _ _ _ (by omega) (by omega) (by omega) (by omega)).mono ?_
      simp only [Int.toNat_natCast]
      rw [EX.out]
      rintro e w' ⟨rfl, rfl⟩
      have ED : Hid (Gf.mul d B = A) := by
        show _ = _
        rw [HD.out, Gf.mul_assoc _ _ _ hA (Gf.inv_lt _) hB, Gf.mul_comm _ _ (Gf.inv_lt _) hB, Gf.mul_inv B hB (by omega), Gf.mul_one A hA]
      go_wp2_with fail
      refine (Gf.mulGf_good _ _ _ T1.out (by omega) (by omega) (by omega) (by omega)).mono ?_
      simp only [Int.toNat_natCast]
      rw [ED.out]
      rintro e w' ⟨rfl, rfl⟩
      obtain ⟨i, hi, hiA⟩ := Gf.ex_onto A (by omega) hA
      obtain ⟨j, hj, hjB⟩ := Gf.ex_onto B (by omega) hB
      obtain ⟨r, hr, hr255⟩ : ∃ r : Nat, (c : Int) % 255 = (r : Int) ∧ r < 255 := ⟨c % 255, by omega, by omega⟩
      obtain ⟨q, hq, hq255, hqq⟩ : ∃ q : Nat, ((i : Int) + (j : Int)) % 255 = (q : Int) ∧ q < 255 ∧ q = (i + j) % 255 := ⟨(i + j) % 255, by omega, by omega, rfl⟩
      have HI := hide hiA
      have HJ := hide hjB
      have HQ := hide hqq
      clear hiA hjB hqq
      have hex := Gf.ex_lt r
      obtain ⟨y, hy⟩ : ∃ y, y = Gf.ex r := ⟨_, rfl⟩
      rw [← hy] at hex
      have HY := hide hy
      clear hy
      go_wp2_with fail
      refine (Gf.expTable_calls _ T1.out).mono ?_
      rintro e w2 ⟨ve, rfl, oe, be⟩
      have OE := hide oe
      have Be := hide (B1.out.trans (be.mono B1.out.size))
      have Te := hide (T1.out.below be)
      have Me := hide (M1.out.below be)
      clear oe be B1 T1 M1
      go_wp2_with fail
      refine (Gf.logTable_calls _ Te.out).mono ?_
      rintro e w3 ⟨vl, rfl, ol, bl⟩
      have OE3 := hide (Own.below OE.out bl)
      have Bl := hide (Be.out.trans (bl.mono Be.out.size))
      have Tl := hide (Te.out.below bl)
      have Ml := hide (Me.out.below bl)
      obtain ⟨gl, capl, hvl, _, _, hcl⟩ := Gf.Own.open ol (by rw [Gf.logL_length]; omega)
      obtain ⟨ge, cape, hve, _, _, hce⟩ := Gf.Own.open OE3.out (by rw [Gf.expL_length]; omega)
      rw [Gf.logL_length] at hvl hcl
      rw [Gf.expL_length] at hve hce
      subst hvl hve
      clear ol bl Be Te Me OE OE3
      have c1 : w3.cell? ⟨gl, A, none⟩ = some (.int .i64 (i : Nat)) := by rw [hcl A hA, ← HI.out, Gf.logL_at i hi]
      have c2 : w3.cell? ⟨gl, B, none⟩ = some (.int .i64 (j : Nat)) := by rw [hcl B hB, ← HJ.out, Gf.logL_at j hj]
      have c3 : w3.cell? ⟨ge, q, none⟩ = some (.int .i64 (p : Nat)) := by
        rw [hce q hq255, Gf.expL_getD q hq255, HQ.out, Gf.ex_mod, ← Gf.ex_add, HI.out, HJ.out, ← HP.out]
      have c4 : w3.cell? ⟨ge, r, none⟩ = some (.int .i64 (y : Nat)) := by rw [hce r hr255, Gf.expL_getD r hr255, ← HY.out]
      have c5 : w3.cell? ⟨gl, y, none⟩ = some (.int .i64 (r : Nat)) := by rw [hcl y hex, HY.out, Gf.logL_at r hr255]
      clear hcl hce
      have x1 : (A : Int) < 256 := by omega
      have x2 : (B : Int) < 256 := by omega
      have x3 : (q : Int) < 255 := by omega
      have x4 : (r : Int) < 255 := by omega
      have x5 : (y : Int) < 256 := by omega
      have x6 : IntKind.i64.wrap ((i : Int) + (j : Int)) = (i : Int) + (j : Int) := by rw [Gf.wrap_i64]; omega
      go_wp2
      go_quiet (fail)
      have Bq := hide (below_drewN Bl.out nq)
      have Tq := hide (Tl.out.drewN nq)
      have Mq := hide (Ml.out.below (below_drewN' nq))
      clear Bl Tl Ml c1 c2 c3 c4 c5
      go_wp2_with fail
      refine (drawPowGf_calls _ _ Mq.out).mono ?_
      rintro e wp ⟨u, n, rfl, bp⟩
      have Bp := hide (Bq.out.trans (bp.mono Bq.out.size))
      have Tp := hide (Tq.out.below bp)
      have Mp := hide (Mq.out.below bp)
      clear bp Bq Tq Mq
      obtain ⟨pr, pok, hpi, hps⟩ := Gf.pow_both u n
      have HPI := hide hpi
      have HPS := hide hps
      clear hpi hps
      go_wp2_with fail
      refine (HPI.out _ Tp.out).mono ?_
      rintro e w' ⟨rfl, rfl⟩
      go_wp2_with fail
      refine (HPS.out _).mono ?_
      rintro e w' ⟨rfl, rfl⟩
      go_wp2_with fail
      refine (drawOrderGf_calls _ _ Mp.out).mono ?_
      rintro e wo ⟨t, rfl, bo⟩
      have Bo := hide (Bp.out.trans (bo.mono Bp.out.size))
      have To := hide (Tp.out.below bo)
      clear bo Bp Tp Mp
      rcases Gf.order_both t with ⟨TT, rfl, ht0, ht1, hoi, hos⟩ | ⟨hoi, hos⟩
      · have HOI := hide hoi
        have HOS := hide hos
        clear hoi hos
        obtain ⟨f1, f2, f3, f4⟩ := Gf.ord_facts TT ht0 ht1
        obtain ⟨o, ho⟩ : ∃ o, o = Gf.ord TT := ⟨_, rfl⟩
        rw [← ho] at f1 f2 f3 f4
        have F3 := hide f3
        clear f3
        have f5 : ((255 : Int) % (o : Int) == 0) = true := by have h := congrArg (fun n : Nat => (n : Int)) f4; simpa using h
        have f6 : ((o : Int) == 0) = false := by simp; omega
        go_wp2_with fail
        refine (HOI.out _ To.out).mono ?_
        rw [← ho]
        rintro e w' ⟨rfl, rfl⟩
        go_wp2_with fail
        refine (HOS.out _).mono ?_
        rw [← ho]
        rintro e w' ⟨rfl, rfl⟩
        clear ho HOI HOS HPI HPS
        go_wp2_with fail
        refine (Gf.powGf_good _ _ _ To.out (by omega) (by omega) (by omega) (by omega)).mono ?_
        simp only [Int.toNat_natCast]
        rw [F3.out]
        rintro e w' ⟨rfl, rfl⟩
        go_wp2
        go_ret
        exact ⟨rfl, Bo.out⟩
      · have HOI := hide hoi
        have HOS := hide hos
        clear hoi hos
        go_wp2_with fail
        refine (HOI.out _ To.out).mono ?_
        rintro e w' ⟨rfl, rfl⟩
        go_wp2_with fail
        refine (HOS.out _).mono ?_
        rintro e w' ⟨rfl, rfl⟩
        go_wp2
        go_ret
        exact ⟨rfl, Bo.out⟩
end Go.Proofs.YtghehmoabioobaaDoor

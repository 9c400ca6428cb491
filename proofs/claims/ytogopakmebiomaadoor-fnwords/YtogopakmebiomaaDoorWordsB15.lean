/-
  The law's own comparing of lists: two that are alike. Each contract says what it asks. The law of words: at every two texts that can be read and are not too long the call returns true, and nothing that was there is written. The program's table of rests must hold its seven numbers. The law of words at every two texts that can be read: the call returns true, and nothing that was there is written. The program's table of rests must hold its seven numbers.
-/
import Derived.Test.YtogopakmebiomaaDoorWordsB11
import Derived.Test.YtogopakmebiomaaDoorWordsB14
import Derived.Test.YtogopakmebiomaaDoorWordsB1
namespace Go.Proofs.YtogopakmebiomaaDoor
open Go.RowKit

set_option maxRecDepth 100000 in
set_option maxHeartbeats 800000 in
theorem sameInts_quiet (v1 v2 : Value) (xs : List Int) (w : World) (h1 : Rd w v1 xs) (h2 : Rd w v2 xs) :
    Calls Tryd.prog 30 #[v1, v2] w fun e w' => e = .returned (.bool true) ∧ ∃ n, w' = w.drewN n := by
  obtain ⟨a1, c1, rfl, _, m1, k1⟩ := h1
  obtain ⟨a2, c2, rfl, _, _, k2⟩ := h2
  have hm : xs.length ≤ maxLen := by omega
  unfold maxLen at hm
  have K := hide k1
  have L := hide k2
  clear k1 k2 m1
  go_enter Tryd.func30, Tryd.ntmps30
  go_wp2
  go_loopw [13] (fun vi wr => ∃ k n : Nat, k ≤ xs.length ∧ vi = .int .i64 k ∧ wr = w.drewN n) (fun vi _ => xs.length - (intOf vi).toNat)
  case atStart => exact ⟨0, 0, Nat.zero_le _, rfl, rfl⟩
  case round =>
    obtain ⟨k, n, hk, rfl, rfl⟩ := hrel
    by_cases hlt : k < xs.length
    · rcases K.out with h3 | ⟨b, off, rfl, hbs, hc⟩
      · subst h3; simp at hlt
      rcases L.out with h3 | ⟨b', off', rfl, hbs', hc'⟩
      · subst h3; simp at hlt
      have e1 : w.cell? ⟨b, off + k, none⟩ = some (.int .i64 (xs.getD k 0)) := hc k hlt
      have e2 : w.cell? ⟨b', off' + k, none⟩ = some (.int .i64 (xs.getD k 0)) := hc' k hlt
      have hlt' : (k : Int) < (xs.length : Int) := by omega
      clear hc hc'
      go_wp2
      go_quiet (fail)
      go_wp2
      go_roundw
      case rel => exact ⟨k + 1, _, by omega, by go_num, rfl⟩
      case measure => simp [intOf]; omega
    · obtain rfl : k = xs.length := by omega
      go_wp2
      go_ret
      exact ⟨rfl, _, rfl⟩
theorem sameInts_same (v1 v2 : Value) (xs : List Int) (w : World) (h1 : Rd w v1 xs) (h2 : Rd w v2 xs) :
    Calls Tryd.prog 30 #[v1, v2] w fun e w' => e = .returned (.bool true) ∧ Below w.heap.size w w' :=
  (sameInts_quiet v1 v2 xs w h1 h2).mono (fun _ _ ⟨h, n, hn⟩ => ⟨h, hn ▸ below_drewN' n⟩)

set_option maxRecDepth 100000 in
set_option maxHeartbeats 800000 in
theorem sameLists_same (v1 v2 : Value) (m : List (List Int)) (w : World) (h1 : RdM w v1 m) (h2 : RdM w v2 m) :
    Calls Tryd.prog 42 #[v1, v2] w fun e w' => e = .returned (.bool true) ∧ Below w.heap.size w w' := by
  have K := hide h1
  have L := hide h2
  obtain ⟨a1, c1, rfl, _, m1, k1⟩ := h1
  obtain ⟨a2, c2, rfl, _, _, k2⟩ := h2
  have hm : m.length ≤ maxLen := by omega
  unfold maxLen at hm
  clear k1 k2 m1
  go_enter Tryd.func42, Tryd.ntmps42
  go_wp2
  go_loopw [13] (fun vi wr => ∃ k : Nat, k ≤ m.length ∧ vi = .int .i64 k ∧ Below w.heap.size w wr) (fun vi _ => m.length - (intOf vi).toNat)
  case atStart => exact ⟨0, Nat.zero_le _, rfl, Below.refl _ _⟩
  case round =>
    obtain ⟨k, hk, rfl, hb⟩ := hrel
    by_cases hlt : k < m.length
    · obtain ⟨b, off, u, rfl, hc1, hu⟩ := (K.out.below hb).row k hlt
      obtain ⟨b', off', u', rfl, hc2, hu'⟩ := (L.out.below hb).row k hlt
      have U := hide hu
      have U' := hide hu'
      have hlt' : (k : Int) < (m.length : Int) := by omega
      have B := hide hb
      clear hu hu' hb
      go_wp2
      go_quiet ((go_at_call 30; exact quiet_more (sameInts_quiet _ _ _ _ (Rd.drewN U.out _) (Rd.drewN U'.out _))))
      go_wp2
      go_roundw
      case rel => exact ⟨k + 1, by omega, by go_num, below_drewN B.out _⟩
      case measure => simp [intOf]; omega
    · obtain rfl : k = m.length := by omega
      go_wp2
      go_ret
      exact ⟨rfl, hb⟩

end Go.Proofs.YtogopakmebiomaaDoor

namespace Go.Proofs.YtogopakmebiomaaDoor
open Go.RowKit
open Gf (wdOk isB)

set_option maxRecDepth 100000 in
set_option maxHeartbeats 12800000 in
theorem fnWords_core (cv mv : Value) (w : World) (hT : Gf.Tab w) (hc : RdB w cv) (hm : RdB w mv) (hlen : ∀ a n c a' n' c', cv = .slice a n c → mv = .slice a' n' c' → (n : Int) + (n' : Int) ≤ 1048576) :
    Calls Tryd.prog 9 #[cv, mv] w fun e w' => e = .returned (.bool true) ∧ Below w.heap.size w w' := by
  have HC := hide hc
  have T := hide hT
  have B := hide (Below.refl w.heap.size w)
  obtain ⟨ca, cc, cz, rfl, _, _, _⟩ := hc
  obtain ⟨ma, mc, mz, rfl, m1, m2, m3⟩ := hm
  have MZ : Hid (RdBz w ma mz) := ⟨m1, m2, m3⟩
  have hl := hlen _ _ _ _ _ _ rfl rfl
  have hl' : ¬ (1048576 : Int) < (cz.length : Int) + (mz.length : Int) := by omega
  have mzl : mz.length ≤ 1048576 := by omega
  clear hlen hT m1 m2 m3
  go_enter Tryd.func9, Tryd.ntmps9
  go_wp2_with fail
  refine (drawEncodeWord_calls _ _ HC.out).mono ?_
  rintro e wn ⟨xv, xs, t, rfl, hxe, hx24, ht4, hx, b⟩
  have RX := hide hx
  have XE := hide hxe
  clear hx hxe HC
  replace T := hide (T.out.below b)
  replace MZ := hide (MZ.out.below b)
  replace B := hide (B.out.trans (b.mono B.out.size))
  clear b
  have EF := hide (@enc_facts xs t)
  obtain ⟨Wb, hWb⟩ : ∃ x, x = (Gf.encW xs t).2 := ⟨_, rfl⟩
  obtain ⟨Wd, hWd⟩ : ∃ x, x = (Gf.encW xs t).1 := ⟨_, rfl⟩
  have E1 := hide hWb
  have E2 := hide hWd
  clear hWb hWd
  obtain ⟨xa, xc, rfl, _, _, _⟩ := RX.out
  go_wp2_with fail
  refine (Gf.encodeWord_calls _ xs t _ T.out RX.out).mono ?_
  rw [← E1.out, ← E2.out]
  rintro e wn ⟨wv, rfl, ow, b⟩
  have RW := hide ow.rd
  clear ow
  replace T := hide (T.out.below b)
  replace MZ := hide (MZ.out.below b)
  replace RX := hide (RX.out.below b)
  replace B := hide (B.out.trans (b.mono B.out.size))
  clear b
  go_wp2_with fail
  refine (Gf.sEncodeWord_calls _ xs t _ RX.out).mono ?_
  rw [← E1.out, ← E2.out]
  rintro e wn ⟨w2v, rfl, ow2, b⟩
  have RW2 := hide ow2.rd
  clear ow2
  replace T := hide (T.out.below b)
  replace MZ := hide (MZ.out.below b)
  replace RX := hide (RX.out.below b)
  replace RW := hide (RW.out.below b)
  replace B := hide (B.out.trans (b.mono B.out.size))
  clear b
  have tw : (Wb != Wb) = false := by simp
  obtain ⟨wa, wc, rfl, hwc, _, _⟩ := RW.out
  go_wp2_with fail
  refine (sameInts_same _ _ Wd _ RW.out RW2.out).mono ?_
  rintro e wn ⟨rfl, b⟩
  replace T := hide (T.out.below b)
  replace MZ := hide (MZ.out.below b)
  replace RX := hide (RX.out.below b)
  replace RW := hide (RW.out.below b)
  replace RW2 := hide (RW2.out.below b)
  replace B := hide (B.out.trans (b.mono B.out.size))
  clear b
  clear RW2
  cases Wb with
  | false =>
    clear EF E1 E2 RX RW XE
    go_wp2_with fail
    refine (drawDecodeWord_calls _ _ (MZ.out.rdb mc)).mono ?_
    rintro e wn ⟨zv, zs, u, rfl, hzw, hu3, hz, b⟩
    have RZ := hide hz
    clear hz
    replace T := hide (T.out.below b)
    replace MZ := hide (MZ.out.below b)
    replace B := hide (B.out.trans (b.mono B.out.size))
    clear b
    have DG := hide (@dec_good zs u hzw)
    obtain ⟨Dd, hDd⟩ : ∃ x, x = (decW zs u).1 := ⟨_, rfl⟩
    obtain ⟨Dn, hDn⟩ : ∃ x, x = (decW zs u).2.1 := ⟨_, rfl⟩
    obtain ⟨Db, hDb⟩ : ∃ x, x = (decW zs u).2.2 := ⟨_, rfl⟩
    rw [← hDd, ← hDn, ← hDb] at DG
    have E1 := hide hDd
    have E2 := hide hDn
    have E3 := hide hDb
    clear hDd hDn hDb hzw
    go_wp2_with fail
    refine (decodeWord_calls _ zs u _ T.out RZ.out).mono ?_
    rw [← E1.out, ← E2.out, ← E3.out]
    rintro e wn ⟨d1v, rfl, od1, b⟩
    have RD1 := hide od1.rd
    clear od1
    replace T := hide (T.out.below b)
    replace MZ := hide (MZ.out.below b)
    replace RZ := hide (RZ.out.below b)
    replace B := hide (B.out.trans (b.mono B.out.size))
    clear b
    go_wp2_with fail
    refine (sDecodeWord_calls _ zs u _ RZ.out).mono ?_
    rw [← E1.out, ← E2.out, ← E3.out]
    rintro e wn ⟨d2v, rfl, od2, b⟩
    have RD2 := hide od2.rd
    clear od2
    replace T := hide (T.out.below b)
    replace MZ := hide (MZ.out.below b)
    replace RZ := hide (RZ.out.below b)
    replace RD1 := hide (RD1.out.below b)
    replace B := hide (B.out.trans (b.mono B.out.size))
    clear b
    have tb : (Db != Db) = false := by simp
    have tn : (Dn != Dn) = false := by simp
    go_wp2_with fail
    refine (sameInts_same _ _ Dd _ RD1.out RD2.out).mono ?_
    rintro e wn ⟨rfl, b⟩
    replace T := hide (T.out.below b)
    replace MZ := hide (MZ.out.below b)
    replace RZ := hide (RZ.out.below b)
    replace RD1 := hide (RD1.out.below b)
    replace RD2 := hide (RD2.out.below b)
    replace B := hide (B.out.trans (b.mono B.out.size))
    clear b
    clear E1 E2 E3 RD2
    cases Db with
    | false =>
      go_wp2
      go_ret
      exact ⟨rfl, B.out⟩
    | true =>
      obtain ⟨g1, g2, g3⟩ := DG.out rfl
      have IW : Hid (Gf.isWR Dd u = (true, true)) := by
        unfold Gf.isWR
        rw [g1, g2]
        exact hide rfl
      clear DG g1 g2
      go_wp2_with fail
      refine (Gf.isWord_calls _ Dd u _ T.out RD1.out).mono ?_
      rw [IW.out]
      rintro e wn ⟨rfl, b⟩
      replace T := hide (T.out.below b)
      replace MZ := hide (MZ.out.below b)
      replace RZ := hide (RZ.out.below b)
      replace RD1 := hide (RD1.out.below b)
      replace B := hide (B.out.trans (b.mono B.out.size))
      clear b
      go_wp2
      go_ret
      exact ⟨rfl, B.out⟩
  | true =>
    obtain ⟨W0, g1, g2, g3, g4, g5, g6, ⟨t1, t3⟩, x1⟩ := EF.out E1.out.symm
    obtain rfl : Wd = W0 := by rw [E2.out, g1]
    have IW := hide g4
    have WD := hide g2
    have IB := hide g3
    have hWl : Wd.length = xs.length + 2 * t := g5
    have HWL := hide hWl
    have DR := hide g6
    have w24 : Wd.length ≤ 24 := (Gf.wdOk_yes g2).2.2.1
    have w2t : 2 * t < Wd.length := by omega
    have WE := hide (Gf.wdOk_yes g2).2.2.2
    have tl : ((Wd.length : Int) != (xs.length : Int) + 2 * (t : Int)) = false := by simp; omega
    obtain ⟨wb, wo, rfl⟩ : ∃ b off, wa = some ⟨b, off, none⟩ := by
      obtain ⟨b, off, u, h1, _⟩ := RW.out.row 0 (by omega)
      exact ⟨b, off, h1⟩
    have i1 : (2 * (t : Int)) ≤ (Wd.length : Int) := by omega
    have i2 : ¬ wc = 2 * t := by omega
    have e1 : (2 * (t : Int)).toNat = 2 * t := by omega
    have i3 : (0 : Int) ≤ 2 * (t : Int) := by omega
    clear EF E1 E2 g1 g2 g3 g4 g5 g6 hWl
    go_wp2_with fail
    refine (Gf.isWord_calls _ Wd t _ T.out RW.out).mono ?_
    rw [IW.out]
    rintro e wn ⟨rfl, b⟩
    replace T := hide (T.out.below b)
    replace MZ := hide (MZ.out.below b)
    replace RX := hide (RX.out.below b)
    replace RW := hide (RW.out.below b)
    replace B := hide (B.out.trans (b.mono B.out.size))
    clear b
    have RDR : Hid (Rd wn (.slice (some ⟨wb, wo + 2 * t, none⟩) (Wd.length - 2 * t) (wc - 2 * t)) xs) := by have := rd_dropL RW.out (2 * t) w2t; rw [DR.out] at this; exact this
    go_wp2_with fail
    refine (sameInts_same _ _ xs _ RDR.out RX.out).mono ?_
    rintro e wn ⟨rfl, b⟩
    clear RDR RX
    replace T := hide (T.out.below b)
    replace MZ := hide (MZ.out.below b)
    replace RW := hide (RW.out.below b)
    replace B := hide (B.out.trans (b.mono B.out.size))
    clear b
    obtain ⟨W1, rfl⟩ : ∃ W, W = wn := ⟨_, rfl⟩
    have OO : Hid ((W1.alloc (.cells #[] 3)).ownsRow W1.heap.size 3 1 (.slice (some ⟨W1.heap.size, 0, none⟩) 0 0) 0 (([] : List Int).map (Value.int .i64))) := World.ownsRow_lit W1 #[] 0 (Nat.le_refl _) (by decide) (by rfl)
    have PP := hide (RW.out.below ((Below.refl W1.heap.size W1).alloc (Nat.le_refl _) (.cells #[] 3)))
    clear tl e1 i1 i2 i3
    go_wp2_with (at_builtin; refine wpList_append_rd rfl (.tmp 95) (.tmp 96) rfl W1.heap.size _ 0 [] Wd rfl OO.out _ rfl PP.out (by omega) (by simp) ?_)
    intro v2 wn ho2 hg2
    have b : Below W1.heap.size W1 wn := ((Below.refl W1.heap.size W1).alloc (Nat.le_refl _) _).grown hg2 (by simp) (fun i hi => by cases hi; exact Nat.le_refl _)
    have ho2 : Own wn W1.heap.size v2 Wd := ho2
    obtain ⟨gs, cs, hv2, hgs1, hgs2, _⟩ := Gf.Own.open ho2 (by omega)
    subst hv2
    have O2 := hide ho2
    have BA := hide b
    obtain ⟨L, hL⟩ : ∃ L, L = Wd.length := ⟨_, rfl⟩
    have HL := hide hL
    have L24 : L ≤ 24 := by omega
    have L1 : 1 ≤ L := by omega
    have nbl := nbTo_lt mz mz.length
    obtain ⟨nn, hnn⟩ : ∃ n, n = nbTo mz mz.length := ⟨_, rfl⟩
    have HNN := hide hnn
    rw [← hnn] at nbl
    rw [← hL]
    have RWL : Hid (Rd W1 (.slice (some ⟨wb, wo, none⟩) L wc) Wd) := by rw [hL]; exact RW.out
    have O2L : Hid (wn.ownsRow W1.heap.size 3 1 (.slice (some ⟨gs, 0, none⟩) L cs) L (Wd.map (Value.int .i64))) := by
      have := ho2
      unfold Own at this
      rwa [← hL] at this
    clear b ho2 hg2 OO PP hL hnn O2 RW w24 w2t
    go_wp2
    go_loopw [14] (fun vk wr => ∃ (k : Nat) (ys : List Int), k ≤ t ∧ vk = .int .i64 k ∧ ys.length = L ∧ ys.all Gf.elOk = true ∧ (unpN Wd ys L).length ≤ k ∧ wr.ownsRow W1.heap.size 3 1 (.slice (some ⟨gs, 0, none⟩) L cs) L (ys.map (Value.int .i64)) ∧ Below W1.heap.size W1 wr) (fun vk _ => t - (intOf vk).toNat)
    case atStart => exact ⟨0, Wd, Nat.zero_le _, rfl, HL.out.symm, WE.out, by rw [unp_self]; exact Nat.le_refl _, O2L.out, BA.out⟩
    case round =>
      obtain ⟨k, ys, hk, rfl, hyl, hye, hyu, ho, hb⟩ := hrel
      have O := hide ho
      have BX := hide hb
      have YL := hide hyl
      have YE := hide hye
      have YU := hide hyu
      clear ho hb hyl hye hyu
      by_cases hgo : k < t ∧ k < mz.length
      · obtain ⟨c1, c2⟩ := hgo
        have c1' : (k : Int) < (t : Int) := by omega
        have c2' : (k : Int) < (mz.length : Int) := by omega
        have MZ2 := hide (MZ.out.below BX.out)
        obtain ⟨mb, mo, rfl, hmb⟩ : ∃ b off, ma = some ⟨b, off, none⟩ ∧ wr.cell? ⟨b, off + k, none⟩ = some (.int .u8 (mz.getD k 0 : Nat)) := by
          rcases MZ2.out.2.2 with h | ⟨b, off, h1, _, h3⟩
          · rw [h] at c2; simp at c2
          · exact ⟨b, off, h1, h3 k c2⟩
        obtain ⟨z, hz⟩ : ∃ z, z = mz.getD k 0 := ⟨_, rfl⟩
        have z256 : z < 256 := by rw [hz]; exact MZ2.out.2.1 k
        rw [← hz] at hmb
        clear hz
        obtain ⟨K1, hK1⟩ : ∃ K : Nat, K = k + 1 := ⟨_, rfl⟩
        obtain ⟨Z1, hZ1⟩ : ∃ Z : Nat, Z = z * K1 := ⟨_, rfl⟩
        have hZb : Z1 ≤ 255 * 4 := by rw [hZ1]; exact Nat.mul_le_mul (by omega) (by omega)
        obtain ⟨Q, hQ⟩ : ∃ Q : Nat, Q = nn + Z1 := ⟨_, rfl⟩
        obtain ⟨A, hA⟩ : ∃ A : Nat, A = Q % L := ⟨_, rfl⟩
        have AL : A < L := by rw [hA]; exact Nat.mod_lt _ (by omega)
        have ws1 : IntKind.i64.wrap ((k : Int) + 1) = (K1 : Int) := by rw [Gf.wrap_i64]; omega
        have ws2 : IntKind.i64.wrap ((z : Int) * (K1 : Int)) = (Z1 : Int) := by
          have e : (z : Int) * (K1 : Int) = (Z1 : Int) := by rw [hZ1]; simp
          rw [e, Gf.wrap_i64]; omega
        have ws3 : IntKind.i64.wrap ((nn : Int) + (Z1 : Int)) = (Q : Int) := by rw [Gf.wrap_i64]; omega
        have ws4 : (Q : Int).tmod (L : Int) = (A : Int) := by rw [hA]; rfl
        have ws5 : (Q : Int) % (L : Int) = (A : Int) := by rw [hA]; simp
        have l0 : ¬ (L : Int) = 0 := by omega
        have l1 : ((L : Int) == 0) = false := by simp; omega
        have NC : Hid (∀ m, Calls Tryd.prog 31 #[.slice (some ⟨mb, mo, none⟩) mz.length mc] (wr.drewN m) fun e w' => e = .returned (.int .i64 (nn : Nat)) ∧ wr.drewN m = w') := fun m => by
          rw [HNN.out]
          exact numberZ_calls _ _ mz _ (MZ2.out.drewN m)
        have cu8 : IntKind.i64.wrap (z : Int) = (z : Int) := by rw [Gf.wrap_i64]; omega
        clear hK1 hZ1 hQ hA
        go_wp2
        go_quiet ((go_at_call 31; exact Gf.quiet_same (NC.out _)))
        clear ws1 ws2 ws3 ws4 ws5 l0 l1 NC
        obtain ⟨y, hy⟩ : ∃ y : Nat, y = (ys.getD A 0).toNat := ⟨_, rfl⟩
        have hye := Gf.all_get YE.out A (by rw [YL.out]; exact AL)
        have y256 : y < 256 := by omega
        have hcy : wr.cell? ⟨gs, A, none⟩ = some (.int .i64 (y : Int)) := by
          rw [O.out.cellAt A (by omega), List.getElem?_map, List.getElem?_eq_getElem (by rw [YL.out]; exact AL)]
          have e : ys.getD A 0 = ys[A]'(by rw [YL.out]; exact AL) := by rw [List.getD_eq_getElem?_getD, List.getElem?_eq_getElem (by rw [YL.out]; exact AL), Option.getD_some]
          rw [← e]
          simp only [Option.map_some]
          congr 2
          omega
        have hcf := O.out.frozenAt A
        obtain ⟨U, hU⟩ : ∃ U : Nat, U = y + z := ⟨_, rfl⟩
        obtain ⟨V, hV⟩ : ∃ V : Nat, V = U % 256 := ⟨_, rfl⟩
        have V256 : V < 256 := by omega
        have wu1 : IntKind.i64.wrap ((y : Int) + (z : Int)) = (U : Int) := by rw [Gf.wrap_i64]; omega
        have wu2 : (U : Int).tmod 256 = (V : Int) := by rw [hV]; rfl
        have wu3 : (U : Int) % 256 = (V : Int) := by omega
        have ai : (A : Int) < (L : Int) := by omega
        clear hy hye hU hV
        obtain ⟨wd, hwd⟩ : ∃ x, x = wr := ⟨_, rfl⟩
        go_wp2
        go_region_with (fail)
        all_goals
          clear wu1 wu2 wu3
          go_wp2
          go_roundw
          case rel =>
            refine ⟨k + 1, ys.set A (V : Int), by omega, by go_num, by rw [List.length_set, YL.out], all_setE YE.out V256, ?_, ?_, ?_⟩
            · have := unp_set (xs := Wd) (ys := ys) (i := A) (z := (V : Int)) L
              have := YU.out
              omega
            · rw [List.map_set]
              exact ((World.ownsRow.kept (row := none) O.out (grown_of_below (below_drewN' _) none) (.inr (by simp [Value.ownBlock]))).stored A (.int .i64 (V : Int))).1
            · exact (below_drewN BX.out _).setCell hgs1 _
          case measure => simp [intOf]; omega
      · have hstop : ((k : Int) < (t : Int) ∧ ¬ (k : Int) < (mz.length : Int)) ∨ ¬ (k : Int) < (t : Int) := by omega
        have O3 : Hid (Own wr W1.heap.size (.slice (some ⟨gs, 0, none⟩) L cs) ys) := by
          show World.ownsRow _ _ _ _ _ ys.length _
          rw [YL.out]
          exact O.out
        have RS := hide O3.out.rd
        have hyl2 : ys.length = Wd.length := by rw [YL.out, HL.out]
        have YW : Hid (wdOk ys t = true) := by
          obtain ⟨a1, a2, a3, _⟩ := Gf.wdOk_yes WD.out
          exact Gf.wdOk_mk a1 (by rw [hyl2]; exact a2) (by rw [hyl2]; exact a3) YE.out
        have hun : (unpN ys Wd ys.length).length ≤ t := by
          have := YU.out
          rw [unpN_comm, YL.out]
          omega
        have DE := hide (decode_right YW.out WD.out hyl2 IB.out hun)
        have WP : Hid (wrpR ys Wd = (unpN ys Wd ys.length, true)) := if_pos ⟨hyl2, by rw [YL.out]; exact L24⟩
        obtain ⟨N, hN⟩ : ∃ N, N = unpN ys Wd ys.length := ⟨_, rfl⟩
        rw [← hN] at DE WP hun
        have tn : ((N.length : Int) != (N.length : Int)) = false := by simp
        have tm : ¬ (t : Int) < (N.length : Int) := by omega
        clear O O3 YL YE YU hyl2 hN hgo hk
        have b := BX.out
        clear BX
        have RW := RWL
        clear RWL
        replace T := hide (T.out.below b)
        replace MZ := hide (MZ.out.below b)
        replace RW := hide (RW.out.below b)
        replace B := hide (B.out.trans (b.mono B.out.size))
        clear b
        rcases hstop with ⟨g1, g2⟩ | g1
        all_goals
          go_wp2_with fail
          refine (decodeWord_calls _ ys t _ T.out RS.out).mono ?_
          rw [DE.out]
          rintro e wn ⟨bv, rfl, ob, b⟩
          have RB := hide ob.rd
          clear ob
          replace T := hide (T.out.below b)
          replace MZ := hide (MZ.out.below b)
          replace RW := hide (RW.out.below b)
          replace RS := hide (RS.out.below b)
          replace B := hide (B.out.trans (b.mono B.out.size))
          clear b
          go_wp2_with fail
          refine (wrongPlaces_calls _ _ ys Wd _ RS.out RW.out).mono ?_
          rw [WP.out]
          rintro e wn ⟨pv, rfl, op, b⟩
          obtain ⟨pa, pc, hpv, _, _, _⟩ := op.rd
          subst hpv
          clear op
          replace T := hide (T.out.below b)
          replace MZ := hide (MZ.out.below b)
          replace RW := hide (RW.out.below b)
          replace RS := hide (RS.out.below b)
          replace RB := hide (RB.out.below b)
          replace B := hide (B.out.trans (b.mono B.out.size))
          clear b
          go_wp2_with fail
          refine (sameInts_same _ _ Wd _ RB.out RW.out).mono ?_
          rintro e wn ⟨rfl, b⟩
          replace T := hide (T.out.below b)
          replace MZ := hide (MZ.out.below b)
          replace RW := hide (RW.out.below b)
          replace RS := hide (RS.out.below b)
          replace RB := hide (RB.out.below b)
          replace B := hide (B.out.trans (b.mono B.out.size))
          clear b
          clear RB RS RW
          go_wp2_with fail
          refine (drawDecodeWord_calls _ _ (MZ.out.rdb mc)).mono ?_
          rintro e wn ⟨zv, zs, u, rfl, hzw, hu3, hz, b⟩
          have RZ := hide hz
          clear hz
          replace T := hide (T.out.below b)
          replace MZ := hide (MZ.out.below b)
          replace B := hide (B.out.trans (b.mono B.out.size))
          clear b
          have DG := hide (@dec_good zs u hzw)
          obtain ⟨Dd, hDd⟩ : ∃ x, x = (decW zs u).1 := ⟨_, rfl⟩
          obtain ⟨Dn, hDn⟩ : ∃ x, x = (decW zs u).2.1 := ⟨_, rfl⟩
          obtain ⟨Db, hDb⟩ : ∃ x, x = (decW zs u).2.2 := ⟨_, rfl⟩
          rw [← hDd, ← hDn, ← hDb] at DG
          have E1 := hide hDd
          have E2 := hide hDn
          have E3 := hide hDb
          clear hDd hDn hDb hzw
          go_wp2_with fail
          refine (decodeWord_calls _ zs u _ T.out RZ.out).mono ?_
          rw [← E1.out, ← E2.out, ← E3.out]
          rintro e wn ⟨d1v, rfl, od1, b⟩
          have RD1 := hide od1.rd
          clear od1
          replace T := hide (T.out.below b)
          replace MZ := hide (MZ.out.below b)
          replace RZ := hide (RZ.out.below b)
          replace B := hide (B.out.trans (b.mono B.out.size))
          clear b
          go_wp2_with fail
          refine (sDecodeWord_calls _ zs u _ RZ.out).mono ?_
          rw [← E1.out, ← E2.out, ← E3.out]
          rintro e wn ⟨d2v, rfl, od2, b⟩
          have RD2 := hide od2.rd
          clear od2
          replace T := hide (T.out.below b)
          replace MZ := hide (MZ.out.below b)
          replace RZ := hide (RZ.out.below b)
          replace RD1 := hide (RD1.out.below b)
          replace B := hide (B.out.trans (b.mono B.out.size))
          clear b
          have tb : (Db != Db) = false := by simp
          have tn : (Dn != Dn) = false := by simp
          go_wp2_with fail
          refine (sameInts_same _ _ Dd _ RD1.out RD2.out).mono ?_
          rintro e wn ⟨rfl, b⟩
          replace T := hide (T.out.below b)
          replace MZ := hide (MZ.out.below b)
          replace RZ := hide (RZ.out.below b)
          replace RD1 := hide (RD1.out.below b)
          replace RD2 := hide (RD2.out.below b)
          replace B := hide (B.out.trans (b.mono B.out.size))
          clear b
          clear E1 E2 E3 RD2
          cases Db with
          | false =>
            go_wp2
            go_ret
            exact ⟨rfl, B.out⟩
          | true =>
            obtain ⟨g1, g2, g3⟩ := DG.out rfl
            have IW : Hid (Gf.isWR Dd u = (true, true)) := by
              unfold Gf.isWR
              rw [g1, g2]
              exact hide rfl
            clear DG g1 g2
            go_wp2_with fail
            refine (Gf.isWord_calls _ Dd u _ T.out RD1.out).mono ?_
            rw [IW.out]
            rintro e wn ⟨rfl, b⟩
            replace T := hide (T.out.below b)
            replace MZ := hide (MZ.out.below b)
            replace RZ := hide (RZ.out.below b)
            replace RD1 := hide (RD1.out.below b)
            replace B := hide (B.out.trans (b.mono B.out.size))
            clear b
            go_wp2
            go_ret
            exact ⟨rfl, B.out⟩
end Go.Proofs.YtogopakmebiomaaDoor

namespace Go.Proofs.YtogopakmebiomaaDoor
open Go.RowKit

theorem IsRow.rdbWords {w : World} {a : Option Addr} {len cap : Nat} {zs : List Int} (h : Frame.IsRow .u8 w a len cap zs) (hb : len ≤ 140737488351232) : RdB w (.slice a len cap) := by
  rcases h with ⟨rfl, rfl, rfl, rfl⟩ | ⟨⟨b, off, sp⟩, rfl, hl, hm, hz, hc, hwf⟩
  · exact ⟨none, 0, [], rfl, by simp, fun i => by simp, .inl rfl⟩
  · have bd : ∀ n ∈ zs, 0 ≤ n ∧ n ≤ 255 := by
      intro n hn
      have := hwf n hn
      simp [Lit.wf, IntKind.min, IntKind.max, IntKind.signed, IntKind.bits] at this
      omega
    have el : ((zs.take len).map Int.toNat).length = len := by rw [List.length_map, List.length_take]; omega
    refine ⟨_, cap, (zs.take len).map Int.toNat, by rw [el], by rw [el]; omega, ?_, ?_⟩
    · intro i
      simp only [List.getD_eq_getElem?_getD, List.getElem?_map, List.getElem?_take]
      split
      · cases hx : zs[i]? with
        | none => simp
        | some n => have := bd n (List.mem_of_getElem? hx); simp; omega
      · simp
    · by_cases h0 : len = 0
      · left
        subst h0
        simp
      · right
        have h00 := hc 0 (by omega)
        obtain rfl : sp = none := by simpa [Addr.add] using World.cell?_spot h00
        refine ⟨b, off, rfl, ?_, ?_⟩
        · have : w.cell? ⟨b, off, none⟩ = some (.int .u8 (zs.getD 0 0)) := by simpa [Addr.add] using h00
          unfold World.cell? at this
          cases hh : w.heap[b]? with
          | none => simp [hh] at this
          | some o => exact (Array.getElem?_eq_some_iff.1 hh).1
        · intro i hi
          rw [el] at hi
          have := hc i (by omega)
          have hadd : (⟨b, off, none⟩ : Addr).add i = ⟨b, off + i, none⟩ := by unfold Addr.add; split <;> simp_all
          rw [hadd] at this
          rw [this]
          have hiz : i < zs.length := by omega
          have hn := bd zs[i] (List.getElem_mem hiz)
          simp only [List.getD_eq_getElem?_getD, List.getElem?_map, List.getElem?_take, if_pos hi, List.getElem?_eq_getElem hiz, Option.map_some, Option.getD_some]
          congr 2
          omega

set_option maxRecDepth 100000 in
set_option maxHeartbeats 800000 in
theorem fnWords_walk (a : Option Addr) (len cap : Nat) (zs : List Int) (a' : Option Addr) (len' cap' : Nat) (zs' : List Int) (w : World) (hT : Gf.Tab w) (h0 : Frame.IsRow .u8 w a len cap zs) (h1 : Frame.IsRow .u8 w a' len' cap' zs') (b0 : len ≤ 140737488351232) (b1 : len' ≤ 140737488351232) :
    Calls Tryd.prog 9 #[.slice a len cap, .slice a' len' cap'] w fun e w' => e = .returned (.bool true) ∧ Below w.heap.size w w' := by
  by_cases h : (len : Int) + (len' : Int) ≤ 1048576
  · refine fnWords_core _ _ w hT (IsRow.rdbWords h0 b0) (IsRow.rdbWords h1 b1) ?_
    intro _ n _ _ n' _ e e'
    simp only [Value.slice.injEq] at e e'
    omega
  · have h' : (1048576 : Int) < (len : Int) + (len' : Int) := by omega
    clear h hT h0 h1
    go_enter Tryd.func9, Tryd.ntmps9
    go_wp2
    go_ret
    exact ⟨rfl, Below.refl _ _⟩
end Go.Proofs.YtogopakmebiomaaDoor

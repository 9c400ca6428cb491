/-
  The laws' comparing of disks and of healths: of like ones true. Each contract says what it asks. A cursor, a variable that takes a disk, and the disk, kept together while a stripe is drawn. No call is walked here.
-/
import Derived.Test.YthdbacihhmilbaaGreatDoorStripesB37
import Derived.Test.YthdbacihhmilbaaGreatDoorStripesB40
import Derived.Test.YthdbacihhmilbaaGreatDoorStripesB39
import Derived.Test.YthdbacihhmilbaaGreatDoorStripesB5
import Derived.Test.YthdbacihhmilbaaGreatDoorStripesB0
set_option linter.unusedVariables false
set_option maxRecDepth 100000
set_option maxHeartbeats 1600000
namespace Go.Proofs.YthdbacihhmilbaaGreatDoor
open Go.RowKit
theorem sameTexts_same (v1 v2 : Value) (xs : List ByteArray) (w : World) (h1 : RdT w v1 xs) (h2 : RdT w v2 xs) :
    Calls Tryz.prog 45 #[v1, v2] w fun e w' => e = .returned (.bool true) ∧ Below w.heap.size w w' := by
 obtain ⟨a1, c1, rfl, _, m1, _, k1⟩ := h1
 obtain ⟨a2, c2, rfl, _, _, _, k2⟩ := h2
 have hm : xs.length ≤ maxLen := by omega
 unfold maxLen at hm
 have K := hide k1
 have L := hide k2
 clear k1 k2 m1
 go_enter Tryz.func45, Tryz.ntmps45
 go_wp2
 go_loopw [13] (fun vi wr => ∃ k : Nat, k ≤ xs.length ∧ vi = .int .i64 k ∧ Below w.heap.size w wr) (fun vi _ => xs.length - (intOf vi).toNat)
 case atStart => exact ⟨0, Nat.zero_le _, rfl, Below.refl _ _⟩
 case round =>
  obtain ⟨k, hk, rfl, hb⟩ := hrel
  by_cases hlt : k < xs.length
  ·rcases K.out with h3 | ⟨b, off, rfl, hbs, hc⟩
   ·subst h3; simp at hlt
   rcases L.out with h3 | ⟨b', off', rfl, hbs', hc'⟩
   ·subst h3; simp at hlt
   have e1 : wr.cell? ⟨b, off + k, none⟩ = some (.string (xs.getD k ⟨#[]⟩)) := (hb.cell (by exact hbs)).trans (hc k hlt)
   have e2 : wr.cell? ⟨b', off' + k, none⟩ = some (.string (xs.getD k ⟨#[]⟩)) := (hb.cell (by exact hbs')).trans (hc' k hlt)
   have hlt' : (k : Int) < (xs.length : Int) := by omega
   clear hc hc'
   generalize xs.getD k ⟨#[]⟩ = z at e1 e2
   go_wp2
   go_quiet (fail)
   go_wp2
   go_roundw
   case rel => exact ⟨k + 1, by omega, by go_num, below_drewN hb _⟩
   case measure => simp [intOf]; omega
  ·obtain rfl : k = xs.length := by omega
   go_wp2
   go_ret
   exact ⟨rfl, hb⟩
theorem sameBools_same (v1 v2 : Value) (xs : List Bool) (w : World) (h1 : RdZ w v1 xs) (h2 : RdZ w v2 xs) :
    Calls Tryz.prog 46 #[v1, v2] w fun e w' => e = .returned (.bool true) ∧ Below w.heap.size w w' := by
 obtain ⟨a1, c1, rfl, _, m1, k1⟩ := h1
 obtain ⟨a2, c2, rfl, _, _, k2⟩ := h2
 have hm : xs.length ≤ maxLen := by omega
 unfold maxLen at hm
 have K := hide k1
 have L := hide k2
 clear k1 k2 m1
 go_enter Tryz.func46, Tryz.ntmps46
 go_wp2
 go_loopw [13] (fun vi wr => ∃ k : Nat, k ≤ xs.length ∧ vi = .int .i64 k ∧ Below w.heap.size w wr) (fun vi _ => xs.length - (intOf vi).toNat)
 case atStart => exact ⟨0, Nat.zero_le _, rfl, Below.refl _ _⟩
 case round =>
  obtain ⟨k, hk, rfl, hb⟩ := hrel
  by_cases hlt : k < xs.length
  ·rcases K.out with h3 | ⟨b, off, rfl, hbs, hc⟩
   ·subst h3; simp at hlt
   rcases L.out with h3 | ⟨b', off', rfl, hbs', hc'⟩
   ·subst h3; simp at hlt
   have e1 : wr.cell? ⟨b, off + k, none⟩ = some (.bool (xs.getD k false)) := (hb.cell (by exact hbs)).trans (hc k hlt)
   have e2 : wr.cell? ⟨b', off' + k, none⟩ = some (.bool (xs.getD k false)) := (hb.cell (by exact hbs')).trans (hc' k hlt)
   have hlt' : (k : Int) < (xs.length : Int) := by omega
   clear hc hc'
   generalize xs.getD k false = z at e1 e2
   go_wp2
   go_quiet (fail)
   go_wp2
   go_roundw
   case rel => exact ⟨k + 1, by omega, by go_num, below_drewN hb _⟩
   case measure => simp [intOf]; omega
  ·obtain rfl : k = xs.length := by omega
   go_wp2
   go_ret
   exact ⟨rfl, hb⟩
theorem sameDisks_same (p h b p' h' b' : Value) (P H : List ByteArray) (B : List Bool) (w : World) (p1 : RdT w p P) (h1 : RdT w h H) (b1 : RdZ w b B) (p2 : RdT w p' P) (h2 : RdT w h' H) (b2 : RdZ w b' B) :
    Calls Tryz.prog 8 #[.agg #[p, h, b], .agg #[p', h', b']] w fun e w' => e = .returned (.bool true) ∧ Below w.heap.size w w' := by
 have P1 := hide p1
 have H1 := hide h1
 have B1 := hide b1
 have P2 := hide p2
 have H2 := hide h2
 have B2 := hide b2
 have A0 : Hid (Hand w ((w.alloc (.cells #[p, h, b] 26)).alloc (.cells #[p', h', b'] 26)) [TBox (w.heap.size + 1) #[p', h', b'] 26, TBox w.heap.size #[p, h, b] 26]) := by
  show Hand _ _ _
  have := ((Hand.start w).box #[p, h, b] 26).box #[p', h', b'] 26
  simpa using this
 obtain ⟨c0, c1, c2⟩ := (A0.out.atBox 1 rfl).c3
 obtain ⟨d0, d1, d2⟩ := (A0.out.atBox 0 rfl).c3
 clear p1 h1 b1 p2 h2 b2
 go_enter Tryz.func8, Tryz.ntmps8
 go_wp2_with fail
 refine (sameTexts_same _ _ P _ (P1.out.below A0.out.below) (P2.out.below A0.out.below)).mono ?_
 rintro e w1 ⟨rfl, q⟩
 have A1 := hide (A0.out.step q)
 clear q A0 c0 c1 c2 d0 d1 d2
 obtain ⟨c0, c1, c2⟩ := (A1.out.atBox 1 rfl).c3
 obtain ⟨d0, d1, d2⟩ := (A1.out.atBox 0 rfl).c3
 go_wp2_with fail
 refine (sameTexts_same _ _ H _ (H1.out.below A1.out.below) (H2.out.below A1.out.below)).mono ?_
 rintro e w2 ⟨rfl, q⟩
 have A2 := hide (A1.out.step q)
 clear q A1 c0 c1 c2 d0 d1 d2
 obtain ⟨c0, c1, c2⟩ := (A2.out.atBox 1 rfl).c3
 obtain ⟨d0, d1, d2⟩ := (A2.out.atBox 0 rfl).c3
 go_wp2_with fail
 refine (sameBools_same _ _ B _ (B1.out.below A2.out.below) (B2.out.below A2.out.below)).mono ?_
 rintro e w3 ⟨rfl, q⟩
 have A3 := hide (A2.out.step q)
 clear q A2 c0 c1 c2 d0 d1 d2
 go_wp2
 go_ret
 exact ⟨rfl, A3.out.below⟩
theorem sameHealths_same (l s l' s' : Value) (X Y : List Int) (y : Bool) (w : World) (l1 : Rd w l X) (s1 : Rd w s Y) (l2 : Rd w l' X) (s2 : Rd w s' Y) :
    Calls Tryz.prog 17 #[.agg #[l, s, .bool y], .agg #[l', s', .bool y]] w fun e w' => e = .returned (.bool true) ∧ Below w.heap.size w w' := by
 have L1 := hide l1
 have S1 := hide s1
 have L2 := hide l2
 have S2 := hide s2
 have A0 : Hid (Hand w ((w.alloc (.cells #[l, s, .bool y] 36)).alloc (.cells #[l', s', .bool y] 36)) [TBox (w.heap.size + 1) #[l', s', .bool y] 36, TBox w.heap.size #[l, s, .bool y] 36]) := by
  show Hand _ _ _
  have := ((Hand.start w).box #[l, s, .bool y] 36).box #[l', s', .bool y] 36
  simpa using this
 obtain ⟨c0, c1, c2⟩ := (A0.out.atBox 1 rfl).c3
 obtain ⟨d0, d1, d2⟩ := (A0.out.atBox 0 rfl).c3
 clear l1 s1 l2 s2
 go_enter Tryz.func17, Tryz.ntmps17
 go_wp2_with fail
 refine (sameInts_same _ _ X _ (L1.out.below A0.out.below) (L2.out.below A0.out.below)).mono ?_
 rintro e w1 ⟨rfl, q⟩
 have A1 := hide (A0.out.step q)
 clear q A0 c0 c1 c2 d0 d1 d2
 obtain ⟨c0, c1, c2⟩ := (A1.out.atBox 1 rfl).c3
 obtain ⟨d0, d1, d2⟩ := (A1.out.atBox 0 rfl).c3
 go_wp2_with fail
 refine (sameInts_same _ _ Y _ (S1.out.below A1.out.below) (S2.out.below A1.out.below)).mono ?_
 rintro e w2 ⟨rfl, q⟩
 have A2 := hide (A1.out.step q)
 clear q A1 c0 c1 c2 d0 d1 d2
 obtain ⟨c0, c1, c2⟩ := (A2.out.atBox 1 rfl).c3
 obtain ⟨d0, d1, d2⟩ := (A2.out.atBox 0 rfl).c3
 cases y <;>
 ·go_wp2
  go_ret
  exact ⟨rfl, A2.out.below⟩
theorem below_cur {w w' : World} {g : Nat} (b : Below w.heap.size w w') : w.grownBy w' (some g) := ⟨b.os, b.tape, b.output, b.size, fun j hj _ => b.block j hj⟩
structure Sd (W w : World) (g : Nat) (cv : Value) (k gd : Nat) (p h b : Value) (P H : List ByteArray) (B : List Bool) : Prop where
 at_ : ∃ (n : Nat) (s : Int), n ≤ k ∧ w.heap[g]? = some (.cells #[cv, .int .i64 n, .int .u64 s] 65 (0, 0))
 code : ∀ w', W.grownBy w' (some g) → RdB w' cv
 grown : W.grownBy w (some g)
 gl : g < W.heap.size
 rb : BoxAt w W.heap.size nil3 26
 db : BoxAt w gd #[p, h, b] 26
 gt : W.heap.size < gd
 dk : ∃ lo hi, DskV w lo hi p h b P H B ∧ W.heap.size + 1 ≤ lo ∧ hi ≤ w.heap.size ∧ (hi ≤ gd ∨ gd + 1 ≤ lo)
 hl : H.length ≤ 24
section
variable {W w w' : World} {g k k' gd : Nat} {cv p h b : Value} {P H : List ByteArray} {B : List Bool}
theorem Sd.cur (s : Sd W w g cv k gd p h b P H B) : CurS w g cv k := ⟨s.at_, fun w2 h2 => s.code w2 (grown_transA s.grown h2)⟩
theorem Sd.draw (s : Sd W w g cv k gd p h b P H B) (c : CurS w' g cv k') (hg : w.grownBy w' (some g)) : Sd W w' g cv k' gd p h b P H B := by
 have ch := grown_cur hg
 have h1 := s.gl
 have h2 := s.gt
 have h3 := hg.size
 obtain ⟨lo, hi, d, a1, a2, a3⟩ := s.dk
 exact ⟨c.at_, s.code, grown_transA s.grown hg, s.gl, s.rb.chg ch (.inr (by omega)), s.db.chg ch (.inr (by omega)), s.gt, ⟨lo, hi, d.chg ch (.inr (by omega)), a1, by omega, a3⟩, s.hl⟩
theorem Sd.step (s : Sd W w g cv k gd p h b P H B) (hb : Below w.heap.size w w') : Sd W w' g cv k gd p h b P H B := by
 obtain ⟨n, q, hn, hh⟩ := s.at_
 obtain ⟨lo, hi, d, a1, a2, a3⟩ := s.dk
 have h3 := hb.size
 exact ⟨⟨n, q, hn, by rw [hb.block g (Array.getElem?_eq_some_iff.1 hh).1]; exact hh⟩, s.code, grown_transA s.grown (below_cur hb), s.gl, s.rb.below hb, s.db.below hb, s.gt, ⟨lo, hi, d.below hb, a1, by omega, a3⟩, s.hl⟩
theorem Sd.mono (s : Sd W w g cv k gd p h b P H B) (hk : k ≤ k') : Sd W w g cv k' gd p h b P H B := by
 obtain ⟨n, q, hn, hh⟩ := s.at_
 exact ⟨⟨n, q, by omega, hh⟩, s.code, s.grown, s.gl, s.rb, s.db, s.gt, s.dk, s.hl⟩
theorem Sd.rp (s : Sd W w g cv k gd p h b P H B) : RdT w p P := by obtain ⟨lo, hi, d, _⟩ := s.dk; exact d.rp
theorem Sd.rh (s : Sd W w g cv k gd p h b P H B) : RdT w h H := by obtain ⟨lo, hi, d, _⟩ := s.dk; exact d.rh
theorem Sd.rz (s : Sd W w g cv k gd p h b P H B) : RdZ w b B := by obtain ⟨lo, hi, d, _⟩ := s.dk; exact d.rb
theorem Sd.sl (s : Sd W w g cv k gd p h b P H B) : ∃ ap cp ah ch ab cb, p = .slice ap P.length cp ∧ h = .slice ah H.length ch ∧ b = .slice ab B.length cb := by obtain ⟨lo, hi, d, _⟩ := s.dk; exact d.sl
theorem Sd.other {x y : Nat} (s : Sd W w g cv k gd p h b P H B) (ch : Chg x y w w') (hx : gd + 1 ≤ x) (hd : ∀ lo hi, DskV w lo hi p h b P H B → hi ≤ w.heap.size → True) (hk : ∃ lo hi, DskV w lo hi p h b P H B ∧ W.heap.size + 1 ≤ lo ∧ hi ≤ w.heap.size ∧ (hi ≤ gd ∨ gd + 1 ≤ lo) ∧ (hi ≤ x ∨ y ≤ lo)) : Sd W w' g cv k gd p h b P H B := by
 obtain ⟨n, q, hn, hh⟩ := s.at_
 obtain ⟨lo, hi, d, a1, a2, a3, a4⟩ := hk
 have h1 := s.gl
 have h2 := s.gt
 have h3 := ch.size
 have hgr : W.grownBy w' (some g) := ⟨ch.os.trans s.grown.os, ch.tape.trans s.grown.tape, ch.output.trans s.grown.output, Nat.le_trans s.grown.size h3, fun j hj hne => (ch.block j (Nat.lt_of_lt_of_le hj s.grown.size) (.inl (by omega))).trans (s.grown.block j hj hne)⟩
 exact ⟨⟨n, q, hn, by rw [ch.block g (Array.getElem?_eq_some_iff.1 hh).1 (.inl (by omega))]; exact hh⟩, s.code, hgr, s.gl, s.rb.chg ch (.inl (by omega)), s.db.chg ch (.inl (by omega)), s.gt, ⟨lo, hi, d.chg ch a4, a1, by omega, a3⟩, s.hl⟩
theorem Sd.put {p' h' b' : Value} {P' H' : List ByteArray} {B' : List Bool} {a c : Nat} (s : Sd W w g cv k gd p h b P H B) (d : DskV w a c p' h' b' P' H' B') (ha : gd + 1 ≤ a) (hc : c ≤ w.heap.size) (hH : H'.length ≤ 24) :
    Sd W (((w.setCell ⟨gd, 0, none⟩ p').setCell ⟨gd, 1, none⟩ h').setCell ⟨gd, 2, none⟩ b') g cv k gd p' h' b' P' H' B' := by
 obtain ⟨n, q, hn, hh⟩ := s.at_
 have h1 := s.gl
 have h2 := s.gt
 have ch := Chg.store3 (lo := gd) (hi := gd + 1) w gd p' h' b' (Nat.le_refl _) (by omega)
 have h3 := ch.size
 have hgr : W.grownBy (((w.setCell ⟨gd, 0, none⟩ p').setCell ⟨gd, 1, none⟩ h').setCell ⟨gd, 2, none⟩ b') (some g) := ⟨ch.os.trans s.grown.os, ch.tape.trans s.grown.tape, ch.output.trans s.grown.output, Nat.le_trans s.grown.size h3, fun j hj hne => (ch.block j (Nat.lt_of_lt_of_le hj s.grown.size) (.inl (by omega))).trans (s.grown.block j hj hne)⟩
 exact ⟨⟨n, q, hn, by rw [ch.block g (Array.getElem?_eq_some_iff.1 hh).1 (.inl (by omega))]; exact hh⟩, s.code, hgr, s.gl, s.rb.chg ch (.inl (by omega)), s.db.store3 p' h' b', s.gt, ⟨a, c, d.chg ch (.inr ha), by omega, by omega, .inr ha⟩, hH⟩
theorem Sd.start {w1 w2 : World} {k0 : Nat} (h0 : CurS W g cv k0) (c1 : CurS w1 g cv k) (g1 : (W.alloc (.cells nil3 26)).grownBy w1 (some g)) (b2 : Below w1.heap.size w1 w2) (d : DskV w2 w1.heap.size w2.heap.size p h b P H B) (hH : H.length ≤ 24) :
    Sd W (w2.alloc (.cells #[p, h, b] 26)) g cv k w2.heap.size p h b P H B := by
 have hl := curS_lt h0
 have s1 := g1.size
 simp only [World.size_alloc] at s1
 have s2 := b2.size
 have b3 := below_box w2 (.cells #[p, h, b] 26)
 have s3 := b3.size
 obtain ⟨n, q, hn, hh⟩ := c1.at_
 have hh2 : w2.heap[g]? = some (.cells #[cv, .int .i64 n, .int .u64 q] 65 (0, 0)) := by rw [b2.block g (by omega)]; exact hh
 have r1 := (BoxAt.new W nil3 26).chg (grown_cur g1) (.inr (by omega))
 exact ⟨⟨n, q, hn, by rw [b3.block g (by omega)]; exact hh2⟩, h0.code, grown_transA (grown_transA (below_cur (below_box W _)) g1) (grown_transA (below_cur b2) (below_cur b3)), hl, (r1.below b2).below b3, BoxAt.new w2 _ _, by omega, ⟨_, _, d.below b3, by omega, by omega, .inl (Nat.le_refl _)⟩, hH⟩
end
def txC (n : Nat) : Array Value := ((List.replicate n (⟨#[]⟩ : ByteArray)).map Value.string).toArray
def boC (n : Nat) : Array Value := ((List.replicate n false).map Value.bool).toArray
theorem mk_txt (n : Nat) (h : n ≤ 1048576) (W : World) : (Instr.makeSlice 23 (.int .i64 (n : Int)) (.int .i64 (n : Int))).run Tryz.prog W = .ok (.slice (some ⟨W.heap.size, 0, none⟩) n n) (W.alloc (.cells (txC n) 9)) := by
 obtain ⟨i0, hi, hz0, hz1, hz2⟩ := info_parts infoStr
 have h2 := run_make (P := Tryz.prog) W 23 9 i0 (.string ⟨#[]⟩) Tryz.underlying23 hi hz0 .i64 .i64 (n : Int) (n : Int) (by omega) (by omega) (by rw [hz2]; omega) (by omega)
 have e : madeCells (Value.string ⟨#[]⟩).cells ((n : Int).toNat * i0.size) = txC n := by
  rw [hz1, Nat.mul_one, Int.toNat_natCast]
  apply Array.ext'
  have := toList_madeCells_one (Value.string ⟨#[]⟩) n
  unfold txC
  rw [List.toList_toArray, List.map_replicate]
  exact this
 rw [e] at h2
 simpa using h2
theorem mk_bol (n : Nat) (h : n ≤ 1048576) (W : World) : (Instr.makeSlice 24 (.int .i64 (n : Int)) (.int .i64 (n : Int))).run Tryz.prog W = .ok (.slice (some ⟨W.heap.size, 0, none⟩) n n) (W.alloc (.cells (boC n) 4)) := by
 obtain ⟨i0, hi, hz0, hz1, hz2⟩ := info_parts infoBol
 have h2 := run_make (P := Tryz.prog) W 24 4 i0 (.bool false) Tryz.underlying24 hi hz0 .i64 .i64 (n : Int) (n : Int) (by omega) (by omega) (by rw [hz2]; omega) (by omega)
 have e : madeCells (Value.bool false).cells ((n : Int).toNat * i0.size) = boC n := by
  rw [hz1, Nat.mul_one, Int.toNat_natCast]
  apply Array.ext'
  have := toList_madeCells_one (Value.bool false) n
  unfold boC
  rw [List.toList_toArray, List.map_replicate]
  exact this
 rw [e] at h2
 simpa using h2
theorem txt_box {w : World} {g n lo : Nat} (h : BoxAt w g (txC n) 9) (hl : lo ≤ g) (hn : n ≤ 1048576) : OwnT w lo (.slice (some ⟨g, 0, none⟩) n n) (List.replicate n ⟨#[]⟩) := by
 refine ⟨by simp, .inr ⟨g, n, _, ?_, hl, h, by simp, by unfold maxLen; omega, by simp [txC], ?_⟩⟩
 ·rw [List.length_replicate]
 ·rw [List.take_of_length_le (by simp [txC])]
  rfl
theorem bol_box {w : World} {g n lo : Nat} (h : BoxAt w g (boC n) 4) (hl : lo ≤ g) (hn : n ≤ 1048576) : OwnZ w lo (.slice (some ⟨g, 0, none⟩) n n) (List.replicate n false) := by
 refine ⟨by simp, .inr ⟨g, n, _, ?_, hl, h, by simp, by unfold maxLen; omega, by simp [boC], ?_⟩⟩
 ·rw [List.length_replicate]
 ·rw [List.take_of_length_le (by simp [boC])]
  rfl
section
variable (w : World) (o0 o1 o2 o3 : Obj)
theorem new_f3 : ((((w.alloc o0).alloc o1).alloc o2).alloc o3).drew.heap[w.heap.size + 1 + 1 + 1]? = some o3 := by
 show ((((w.alloc o0).alloc o1).alloc o2).alloc o3).heap[_]? = _
 have := heap_alloc_new (((w.alloc o0).alloc o1).alloc o2) o3
 simpa only [World.size_alloc] using this
theorem new_f2 : ((((w.alloc o0).alloc o1).alloc o2).alloc o3).drew.heap[w.heap.size + 1 + 1]? = some o2 := by
 show ((((w.alloc o0).alloc o1).alloc o2).alloc o3).heap[_]? = _
 rw [Below.heap_alloc _ _ _ (by simp)]
 have := heap_alloc_new ((w.alloc o0).alloc o1) o2
 simpa only [World.size_alloc] using this
theorem new_f1 : ((((w.alloc o0).alloc o1).alloc o2).alloc o3).drew.heap[w.heap.size + 1]? = some o1 := by
 show ((((w.alloc o0).alloc o1).alloc o2).alloc o3).heap[_]? = _
 rw [Below.heap_alloc _ _ _ (by simp <;> omega), Below.heap_alloc _ _ _ (by simp)]
 have := heap_alloc_new (w.alloc o0) o1
 simpa only [World.size_alloc] using this
theorem new_f0 : ((((w.alloc o0).alloc o1).alloc o2).alloc o3).drew.heap[w.heap.size]? = some o0 := by
 show ((((w.alloc o0).alloc o1).alloc o2).alloc o3).heap[_]? = _
 rw [Below.heap_alloc _ _ _ (by simp <;> omega), Below.heap_alloc _ _ _ (by simp <;> omega), Below.heap_alloc _ _ _ (by simp)]
 exact heap_alloc_new w o0
theorem new_below : Below w.heap.size w ((((w.alloc o0).alloc o1).alloc o2).alloc o3).drew :=
 (((((Below.refl _ w).alloc (Nat.le_refl _) o0).alloc (by simp) o1).alloc (by simp <;> omega) o2).alloc (by simp <;> omega) o3).drew
end
theorem new_dsk {W : World} {lo ip ih ib n : Nat} (hp : W.heap[ip]? = some (.cells (txC n) 9 (0, 0))) (hh : W.heap[ih]? = some (.cells (txC n) 9 (0, 0))) (hb : W.heap[ib]? = some (.cells (boC n) 4 (0, 0))) (hne : ip ≠ ih) (l1 : lo ≤ ip) (l2 : lo ≤ ih) (l3 : lo ≤ ib) (hn : n ≤ 24) :
    DskV W lo W.heap.size (.slice (some ⟨ip, 0, none⟩) n n) (.slice (some ⟨ih, 0, none⟩) n n) (.slice (some ⟨ib, 0, none⟩) n n) (List.replicate n ⟨#[]⟩) (List.replicate n ⟨#[]⟩) (List.replicate n false) := by
 have hz : ∀ s ∈ List.replicate n (⟨#[]⟩ : ByteArray), s.size ≤ maxLen := by
  intro s hs
  rw [List.eq_of_mem_replicate hs]
  exact Nat.zero_le _
 have op := txt_box (lo := lo) hp l1 (by omega)
 have oh := txt_box (lo := lo) hh l2 (by omega)
 have ob := bol_box (lo := lo) hb l3 (by omega)
 exact ⟨op, oh, ob, row_top op, row_top oh, row_top ob, .inr (by simpa [Value.ownBlock] using hne), hz, hz⟩
theorem sNewDisk_yes (n : Nat) (w : World) (h1 : 1 ≤ n) (h2 : n ≤ 24) :
    Calls Tryz.prog 74 #[.int .i64 n] w fun e w' => ∃ p h b, e = .returned (.tuple #[.agg #[p, h, b], .bool true]) ∧ DskV w' w.heap.size w'.heap.size p h b (List.replicate n ⟨#[]⟩) (List.replicate n ⟨#[]⟩) (List.replicate n false) ∧ Below w.heap.size w w' := by
 have hm1 := mk_txt n (by omega)
 have hm2 := mk_bol n (by omega)
 go_enter Tryz.func74, Tryz.ntmps74
 go_wp2_with fail
 refine (l1In_yes _ _ _ _ (by omega) (by omega)).mono ?_
 rintro e w1 ⟨rfl, rfl⟩
 go_wp2
 go_region
 all_goals
  go_wp2
  (try simp only [Exit.inBlock, Exit.then])
  refine bodyPost_ret (res_dsk2 rfl _ _ w.heap.size _ _ _ (0, 0) rfl (new_f0 w _ _ _ _)) rfl ⟨_, _, _, rfl, new_dsk (by first | exact new_f1 w _ _ _ _ | exact new_f2 w _ _ _ _ | exact new_f3 w _ _ _ _) (by first | exact new_f1 w _ _ _ _ | exact new_f2 w _ _ _ _ | exact new_f3 w _ _ _ _) (by first | exact new_f1 w _ _ _ _ | exact new_f2 w _ _ _ _ | exact new_f3 w _ _ _ _) (by omega) (by omega) (by omega) (by omega) h2, new_below w _ _ _ _⟩
theorem sNewDisk_no (n : Int) (w : World) (h : ¬ (1 ≤ n ∧ n ≤ 24)) :
    Calls Tryz.prog 74 #[.int .i64 n] w fun e w' => e = .returned (.tuple #[.agg nil3, .bool false]) ∧ Below w.heap.size w w' := by
 go_enter Tryz.func74, Tryz.ntmps74
 go_wp2_with fail
 refine (l1In_no _ _ _ _ (by omega)).mono ?_
 rintro e w1 ⟨rfl, rfl⟩
 go_wp2
 (try simp only [Exit.inBlock, Exit.then])
 exact bodyPost_ret (res_dsk2 rfl _ _ w.heap.size _ _ _ (0, 0) rfl (heap_alloc_new w _)) rfl ⟨rfl, below_box w _⟩
def ndT (n : Int) : List ByteArray := if 1 ≤ n ∧ n ≤ 24 then List.replicate n.toNat ⟨#[]⟩ else []
def ndZ (n : Int) : List Bool := if 1 ≤ n ∧ n ≤ 24 then List.replicate n.toNat false else []
def ndK (n : Int) : Bool := decide (1 ≤ n ∧ n ≤ 24)
theorem sNewDisk_calls (n : Int) (w : World) :
    Calls Tryz.prog 74 #[.int .i64 n] w fun e w' => ∃ p h b, e = .returned (.tuple #[.agg #[p, h, b], .bool (ndK n)]) ∧ DskV w' w.heap.size w'.heap.size p h b (ndT n) (ndT n) (ndZ n) ∧ Below w.heap.size w w' := by
 by_cases h : 1 ≤ n ∧ n ≤ 24
 ·obtain ⟨m, rfl⟩ : ∃ m : Nat, n = (m : Int) := ⟨n.toNat, by omega⟩
  have e1 : ndT (m : Int) = List.replicate m ⟨#[]⟩ := by unfold ndT; rw [if_pos h, Int.toNat_natCast]
  have e2 : ndZ (m : Int) = List.replicate m false := by unfold ndZ; rw [if_pos h, Int.toNat_natCast]
  have e3 : ndK (m : Int) = true := decide_eq_true h
  rw [e1, e2, e3]
  exact sNewDisk_yes m w (by omega) (by omega)
 ·have e1 : ndT n = [] := if_neg h
  have e2 : ndZ n = [] := if_neg h
  have e3 : ndK n = false := decide_eq_false h
  rw [e1, e2, e3]
  exact (sNewDisk_no n w h).mono fun e w' ⟨he, hb⟩ => ⟨_, _, _, he, DskV.nil _ _ _, hb⟩
end Go.Proofs.YthdbacihhmilbaaGreatDoor

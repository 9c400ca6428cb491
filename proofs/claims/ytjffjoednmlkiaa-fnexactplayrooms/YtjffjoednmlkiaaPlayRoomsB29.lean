/-
  'append(l, k)': one integer behind a row of the call's own, and where it lies then. No call is walked here. Rooms taken and given back by numbers: PlayRooms of the model. Each contract says what it asks. What a play of rooms answers, as a thing that a law holds: rooms and a row of numbers. Each contract says what it asks. The law that holds the program's PlayRooms against its model's: at every list of numbers the call returns true, and nothing that was there is written. No condition.
-/
import Derived.Test.YtjffjoednmlkiaaPlayRoomsB4
import Derived.Deep.AppendLies
import Derived.Test.YtjffjoednmlkiaaPlayRoomsB28
import Derived.Deep.CutBlock
namespace Go.Proofs.Ytjffjoednmlkiaa
open Go.RowKit
/-- One integer behind a row of the call's own, and where it lies then. -/
theorem wpList_append_int1 {w : World} {ops : Array Oper} {rest : List Oper} {o : Oper} {a : Act} {Q : Exit → Act → World → Prop} (hgd : o.guard = none) (s x : Operand)
    (ho : o.op = .call { callee := .builtin .append, args := #[s, x], argTypes := #[36, 36] })
    (base : Nat) (v : Value) (n : Nat) (xs : List Int) (z : Int) (hs : a.eval s = v) (hown : w.ownsRow base 3 1 v n (xs.map (Value.int .i64))) (gx : Nat) (hx : a.eval x = .slice (some ⟨gx, 0, none⟩) 1 1) (hc : w.cell? ⟨gx, 0, none⟩ = some (.int .i64 z))
    (hm : n ≤ 1000) (hbase : base ≤ w.heap.size)
    (h : ∀ g cap w', w'.ownsRow base 3 1 (.slice (some ⟨g, 0, none⟩) (n + 1) cap) (n + 1) ((xs ++ [z]).map (Value.int .i64)) → w.grownBy w' v.ownBlock → (v.ownBlock = some g ∨ g = w.heap.size) → g < w'.heap.size → wpList Try.prog ops Q rest (a.put o.dst (.slice (some ⟨g, 0, none⟩) (n + 1) cap)) w') : wpList Try.prog ops Q (o :: rest) a w := by
  obtain ⟨i0, hi, hz0, hz1, hz2⟩ := info_parts infoInt
  refine wpList_append_lies (w := w) hgd s x _ ho base _ i0 (.int .i64 0) 1 8 Try.underlying36 hi hz0 hz1 hz2 rfl (by decide) v n _ hs hown ⟨gx, 0, none⟩ 1 1 ([z].map (Value.int .i64)) hx (by simp) ?_ (ints_oneCell _ _) (by decide) (by unfold maxLen; omega) (by omega) hbase _ rfl ?_
  · intro j u hu
    have : j = 0 := by
      have := (List.getElem?_eq_some_iff.1 hu).1
      simpa using this
    subst this
    simp at hu
    subst hu
    simpa [Addr.add] using hc
  · intro g cap w' h1 h2 h3 h4
    rw [← List.map_append] at h1
    exact h g cap w' h1 h2 h3 h4
end Go.Proofs.Ytjffjoednmlkiaa

namespace Go.Proofs.Ytjffjoednmlkiaa
open Go.RowKit Go.Maps Go.MapKept Go.ChangeMaps
set_option linter.unusedVariables false
set_option linter.unusedSimpArgs false

set_option maxRecDepth 100000 in
theorem rBit_calls (b : Bool) (w : World) :
    Calls Try.prog 70 #[.bool b] w fun e w' => e = .returned (.int .i64 (if b then 1 else 0)) ∧ w = w' := by
  cases b with
  | true =>
    go_enter Try.func70, Try.ntmps70
    go_wp2
    go_ret
    exact ⟨rfl, rfl⟩
  | false =>
    go_enter Try.func70, Try.ntmps70
    go_wp2
    go_ret
    exact ⟨rfl, rfl⟩
theorem rIn_calls (x a b : Int) (t : Bool) (w : World) (ht : t = true ↔ (a ≤ x ∧ x ≤ b)) :
    Calls Try.prog 68 #[.int .i64 x, .int .i64 a, .int .i64 b] w fun e w' => e = .returned (.bool t) ∧ w = w' := by
  cases t with
  | true => exact l1In_yes x a b w (ht.1 rfl).1 (ht.1 rfl).2
  | false =>
    refine l1In_no x a b w ?_
    have h : ¬ (a ≤ x ∧ x ≤ b) := fun h => by have := ht.2 h; simp at this
    omega
/-- Rows that lie not in a variable's block. -/
theorem RomV.tBox {w : World} {lo hi x : Nat} {f h : Value} {m : List (List Int)} {hs : List Hl} {cs : Array Value} (d : RomV w lo hi f h m hs) (X : BoxAt w x cs 29) : RomT w lo hi x f h m hs := by
  obtain ⟨⟨vs, a⟩, b, c⟩ := d
  exact ⟨⟨vs, a, fun i hi => X.offT (a.row i hi) (by decide)⟩, b, c⟩
theorem RomT.below {w w' : World} {lo hi t : Nat} {f h : Value} {m : List (List Int)} {hs : List Hl} (d : RomT w lo hi t f h m hs) (hb : Below w.heap.size w w') : RomT w' lo hi t f h m hs := by
  obtain ⟨⟨vs, a, n⟩, b, c⟩ := d
  exact ⟨⟨vs, a.below hb, n⟩, rowsBelow b hb, c⟩
/-- A row of numbers that is told grows: rooms stay, and lie not in its block. -/
theorem RomT.grown {w w' : World} {lo hi t n base : Nat} {f h td : Value} {m : List (List Int)} {hs : List Hl} {xs : List Value} (d : RomT w lo hi t f h m hs) (o : w.ownsRow base 3 1 td n xs) (ht : ∀ k, td.ownBlock = some k → k = t) (g : w.grownBy w' td.ownBlock) (t' : Nat) (h' : t' = t ∨ hi ≤ t') : RomT w' lo hi t' f h m hs := by
  obtain ⟨⟨vs, a, nn⟩, b, c⟩ := d
  have rk : ∀ i, i < m.length → (vs.getD i nilRow).ownBlock = none ∨ (vs.getD i nilRow).ownBlock ≠ td.ownBlock := fun i hi => by
    cases e : td.ownBlock with
    | none => cases e2 : (vs.getD i nilRow).ownBlock with | none => exact .inl rfl | some k => exact .inr (by simp)
    | some k => exact .inr (by rw [ht k e]; exact nn i hi)
  refine ⟨⟨vs, ⟨a.len, World.ownsRow.kept a.head g (heads_apart a.head o), fun i hi => World.ownsRow.kept (a.row i hi) g (rk i hi), a.top, a.tops, a.apart⟩, fun i hi e => ?_⟩, World.ownsRow.kept b g (types_apart b o (by decide)), c⟩
  rcases h' with rfl | h'
  · exact nn i hi e
  · have := a.tops i t' hi e
    omega
/-- Where the play stands: the rooms in a variable, the row that is told. -/
structure Rqs (w wx : World) (x t lo hi : Nat) (f h td : Value) (m : List (List Int)) (hs : List Hl) (n : Nat) (vs : List Int) : Prop where
  res : BoxAt wx w.heap.size nilR 29
  box : BoxAt wx x #[f, h] 29
  rom : RomT wx lo hi t f h m hs
  row : wx.ownsRow (w.heap.size + 1) 3 1 td n (vs.map (Value.int .i64))
  tb : ∀ k, td.ownBlock = some k → k = t
  tw : t < wx.heap.size
  x1 : w.heap.size < x
  lo1 : w.heap.size ≤ lo
  hi1 : hi ≤ wx.heap.size
  bel : Below w.heap.size w wx
  six : m.length = 6
section
variable {w wx w1 : World} {x t lo hi : Nat} {f h td : Value} {m : List (List Int)} {hs : List Hl} {n : Nat} {vs : List Int}
theorem Rqs.below (d : Rqs w wx x t lo hi f h td m hs n vs) (hb : Below wx.heap.size wx w1) : Rqs w w1 x t lo hi f h td m hs n vs :=
  ⟨d.res.below hb, d.box.below hb, d.rom.below hb, rowsBelow d.row hb, d.tb, Nat.lt_of_lt_of_le d.tw hb.size, d.x1, d.lo1, Nat.le_trans d.hi1 hb.size, d.bel.trans (hb.mono d.bel.size), d.six⟩
/-- The rooms were written by a call, and go to the variable. -/
theorem Rqs.wrote {h' : Value} {X : List (List Int)} {Y : List Hl} (d : Rqs w wx x t lo hi f h td m hs n vs) (r : RomT w1 lo w1.heap.size t f h' X Y) (hc : ∀ l u, (∀ k, f.ownBlock = some k → l ≤ k ∧ k < u) → Chg l u wx w1) (h6 : X.length = 6) :
    BoxAt w1 x #[f, h] 29 ∧ ∀ w2, Below w1.heap.size w1 w2 → Rqs w ((w2.setCell ⟨x, 0, none⟩ f).setCell ⟨x, 1, none⟩ h') x t lo w1.heap.size f h' td X Y n vs := by
  obtain ⟨vs0, a, nn⟩ := d.rom.free
  obtain ⟨g, cap, rfl⟩ : ∃ g cap, f = .slice (some ⟨g, 0, none⟩) m.length cap := by
    have := d.six
    rcases a.head.2 with ⟨_, e⟩ | ⟨g, cap, cur, e, _⟩
    · omega
    · exact ⟨g, cap, e⟩
  have c := hc g (g + 1) (fun k hk => by
    have e : g = k := by simpa [Value.ownBlock] using hk
    omega)
  have gl : lo ≤ g := (World.ownsRow.lt a.head g rfl).1
  have ne : x ≠ g := fun e => d.box.offT a.head (by decide) (by rw [← e]; rfl)
  have ne2 : w.heap.size ≠ g := fun e => d.res.offT a.head (by decide) (by rw [← e]; rfl)
  have X1 := d.box.chg c (by omega)
  have l1 := d.lo1
  refine ⟨X1, fun w2 hb => ?_⟩
  have X2 := X1.below hb
  have gs := grown_tr (grown_setCell w2 x 0 (.slice (some ⟨g, 0, none⟩) m.length cap)) (grown_setCell _ x 1 h')
  have r2 := r.below hb
  obtain ⟨⟨vs1, a1, n1⟩, b1, c1⟩ := r2
  have M3 := MatT.keptBox ⟨vs1, a1, n1⟩ X2 (by decide) (by decide) gs
  have O3 := World.ownsRow.kept b1 gs (.inr (X2.offT b1 (by decide)))
  have row1 : w1.ownsRow (w.heap.size + 1) 3 1 td n (vs.map (Value.int .i64)) := by
    refine ⟨d.row.1, ?_⟩
    rcases d.row.2 with hn | ⟨g', cap', cur, e, hb', hg, rest⟩
    · exact .inl hn
    · refine .inr ⟨g', cap', cur, e, hb', ?_, rest⟩
      have ng : g' ≠ g := fun e2 => (heads_apart a.head d.row).elim (fun q => by simp [Value.ownBlock] at q) (fun q => q (by rw [e, e2]; rfl))
      rw [c.block g' (Array.getElem?_eq_some_iff.1 hg).1 (by omega)]
      exact hg
  have row2 := rowsBelow row1 hb
  have rk := World.ownsRow.kept row2 gs (.inr (X2.offT row2 (by decide)))
  have xl := d.x1
  have bw := d.bel.size
  exact ⟨((d.res.chg c (by omega)).below hb).other (by omega) |>.other (by omega), (X2.set 0 _).set 1 _, ⟨M3, O3, c1⟩, rk, d.tb, Nat.lt_of_lt_of_le d.tw (Nat.le_trans c.size (Nat.le_trans hb.size gs.size)), d.x1, d.lo1, Nat.le_trans hb.size gs.size,
    ((d.bel.trans (c.below (B := w.heap.size) (by omega) bw)).trans (hb.mono (Nat.le_trans bw c.size))).grown gs (Nat.le_trans bw (Nat.le_trans c.size hb.size)) (fun k hk => by cases hk; omega), h6⟩
/-- The rooms stay, and go to the variable again. -/
theorem Rqs.again (d : Rqs w wx x t lo hi f h td m hs n vs) : Rqs w ((wx.setCell ⟨x, 0, none⟩ f).setCell ⟨x, 1, none⟩ h) x t lo hi f h td m hs n vs := by
  have gs := grown_tr (grown_setCell wx x 0 f) (grown_setCell _ x 1 h)
  obtain ⟨⟨vs1, a1, n1⟩, b1, c1⟩ := d.rom
  have xl := d.x1
  have M3 := MatT.keptBox ⟨vs1, a1, n1⟩ d.box (by decide) (by decide) gs
  exact ⟨(d.res.other (by omega)).other (by omega), (d.box.set 0 _).set 1 _, ⟨M3, World.ownsRow.kept b1 gs (.inr (d.box.offT b1 (by decide))), c1⟩, World.ownsRow.kept d.row gs (.inr (d.box.offT d.row (by decide))), d.tb, Nat.lt_of_lt_of_le d.tw gs.size, d.x1, d.lo1, Nat.le_trans d.hi1 gs.size, d.bel.grown gs d.bel.size (fun k hk => by cases hk; omega), d.six⟩
/-- One more is told. -/
theorem Rqs.tell (d : Rqs w wx x t lo hi f h td m hs n vs) {g9 k9 : Nat} {z : Int} (hg : wx.grownBy w1 td.ownBlock) (ho : w1.ownsRow (w.heap.size + 1) 3 1 (.slice (some ⟨g9, 0, none⟩) (n + 1) k9) (n + 1) ((vs ++ [z]).map (Value.int .i64))) (hl : td.ownBlock = some g9 ∨ g9 = wx.heap.size) (hw : g9 < w1.heap.size) :
    Rqs w w1 x g9 lo hi f h (.slice (some ⟨g9, 0, none⟩) (n + 1) k9) m hs (n + 1) (vs ++ [z]) := by
  have xr : ∀ {y : Nat} {cs : Array Value}, BoxAt wx y cs 29 → BoxAt w1 y cs 29 := fun {y cs} X => by
    have e := hg.block y X.lt (fun e => X.offT d.row (by decide) e.symm)
    exact e.trans X
  have tn : g9 = t ∨ hi ≤ g9 := hl.elim (fun e => .inl (d.tb g9 e)) (fun e => .inr (by rw [e]; exact d.hi1))
  exact ⟨xr d.res, xr d.box, d.rom.grown d.row d.tb hg g9 tn, ho, fun k hk => by cases hk; rfl, hw, d.x1, d.lo1, Nat.le_trans d.hi1 hg.size, d.bel.grown hg d.bel.size (fun k hk => Nat.le_of_lt (World.ownsRow.lt d.row k hk).1), d.six⟩
end
/-- What is played of one number, as the model takes it. -/
theorem RpTo.cases {m : List (List Int)} {hs : List Hl} {n : Int} {X : List (List Int)} {Y : List Hl} {v : Int} (h : RpTo m hs n X Y v) (ok : RoomsOk m hs) :
    (orP n ∧ (∀ o, ordN n ≤ o → o < 6 → m.getD o [] = []) ∧ X = m ∧ Y = hs ∧ v = -1) ∨
    (orP n ∧ ∃ (o a : Nat) (r : List Int), ordN n ≤ o ∧ o < 6 ∧ (∀ o', ordN n ≤ o' → o' < o → m.getD o' [] = []) ∧ m.getD o [] = (a : Int) :: r ∧ X = plR a (ordN n) (o - ordN n) (m.set o r) ∧ Y = putH (a : Int) (ordN n : Int) hs ∧ v = (a : Int)) ∨
    ((-32 ≤ n ∧ n ≤ 0) ∧ (∀ o, (-n, o) ∉ hs) ∧ X = m ∧ Y = hs ∧ v = -1) ∨
    ((-32 ≤ n ∧ n ≤ 0) ∧ ∃ an o : Nat, -n = (an : Int) ∧ ((an : Int), (o : Int)) ∈ hs ∧ X = jwR (5 - o) an o m ∧ Y = (hs.filter fun x => decide (x.1 ≠ (an : Int))) ∧ v = 0) ∨
    (¬ orP n ∧ ¬ (-32 ≤ n ∧ n ≤ 0) ∧ X = m ∧ Y = hs ∧ v = -1) := by
  rcases h with ⟨h0, X', Y', a, b, ht, hE⟩ | ⟨h0, X', Y', b, ht, hE⟩
  · rcases ht with ⟨hn, _, _, _, rfl⟩ | ⟨⟨_, ho, hall⟩, _, _, _, rfl⟩ | ⟨o, a', r, ⟨_, ho, h1, h2, h3, h4⟩, rfl, rfl, rfl, rfl⟩
    · obtain ⟨_, eX, eY, ev⟩ := hE.resolve_left (fun h => by simp at h)
      exact .inr (.inr (.inr (.inr ⟨fun h => hn ⟨ok, h⟩, by omega, eX, eY, ev⟩)))
    · obtain ⟨_, eX, eY, ev⟩ := hE.resolve_left (fun h => by simp at h)
      exact .inl ⟨ho, hall, eX, eY, ev⟩
    · obtain ⟨_, eX, eY, ev⟩ := hE.resolve_right (fun h => by simp at h)
      exact .inr (.inl ⟨ho, o, a', r, h1, h2, h3, h4, eX, eY, ev⟩)
  · by_cases hb : -32 ≤ n
    · rcases ht with ⟨hn, _⟩ | ⟨⟨_, hno⟩, _, _, rfl⟩ | ⟨an, o, ⟨_, e, hin⟩, rfl, rfl, rfl⟩
      · exact absurd ok hn
      · obtain ⟨_, eX, eY, ev⟩ := hE.resolve_left (fun h => by simp at h)
        exact .inr (.inr (.inl ⟨⟨hb, h0⟩, hno, eX, eY, ev⟩))
      · obtain ⟨_, eX, eY, ev⟩ := hE.resolve_right (fun h => by simp at h)
        exact .inr (.inr (.inr (.inl ⟨⟨hb, h0⟩, an, o, e, by rw [← e]; exact hin, eX, eY, ev⟩)))
    · have hno : ∀ o, (-n, o) ∉ hs := fun o ho => by
        have := (ok.rmHeld ho).2.2.2.1
        omega
      rcases ht with ⟨hn, _⟩ | ⟨⟨_, _⟩, _, _, rfl⟩ | ⟨an, o, ⟨_, e, hin⟩, _⟩
      · exact absurd ok hn
      · obtain ⟨_, eX, eY, ev⟩ := hE.resolve_left (fun h => by simp at h)
        exact .inr (.inr (.inr (.inr ⟨fun h => by have := h.1; omega, fun h => hb h.1, eX, eY, ev⟩)))
      · exact absurd hin (hno _)

set_option maxRecDepth 100000 in
set_option maxHeartbeats 6400000 in
theorem sPlayRooms_calls (v : Value) (ns : List Int) (X : List (List Int)) (Y : List Hl) (vs : List Int) (ok : Bool) (w : World) (h : Rd w v ns) (hf : RpAt ns X Y vs ok) :
    Calls Try.prog 18 #[v] w fun e w' => ∃ f' h' v' lo hi, e = .returned (.tuple #[.agg #[f', h'], v', .bool ok]) ∧ RomV w' lo hi f' h' X Y ∧ Own w' w.heap.size v' vs ∧ (∀ k, v'.ownBlock = some k → k < lo ∨ hi ≤ k) ∧ w.heap.size ≤ lo ∧ hi ≤ w'.heap.size ∧ Below w.heap.size w w' := by
  have R := hide h
  obtain ⟨a, cap, rfl, mh, hcm, _⟩ := h
  have hm := hcm.1
  unfold maxLen at hm
  clear hcm
  have A0 := hide ((Hand.start w).box nilR 29)
  by_cases hl : ns.length ≤ 60
  case neg =>
    have hl' : (60 : Int) < (ns.length : Int) := by omega
    obtain ⟨rfl, rfl, rfl, rfl⟩ : X = [] ∧ Y = [] ∧ vs = [] ∧ ok = false := by
      rcases hf with h | h
      · exact absurd h.1 hl
      · exact h.2
    clear hf
    go_enter Try.func18, Try.ntmps18
    obtain ⟨z0, z1⟩ := (A0.out.atBox 0 rfl).c2
    go_wp2
    exact bodyPost_ret (res_rm3 rfl _ _ w.heap.size _ _ (0, 0) rfl (A0.out.atBox 0 rfl)) rfl ⟨_, _, _, w.heap.size, w.heap.size, rfl, RomV.nil _ _ _, World.ownsRow_nil _ _ _ _, fun k hk => by simp [Value.ownBlock] at hk, Nat.le_refl _, by simp, A0.out.below⟩
  have hl' : ¬ (60 : Int) < (ns.length : Int) := by omega
  obtain ⟨M, H, V, hp, hX, hY, hV, rfl⟩ : ∃ M H V, Rpl ns M H V ∧ X = M ns.length ∧ Y = H ns.length ∧ vs = tldV V ns.length ∧ ok = true := by
    rcases hf with h | h
    · exact h.2
    · exact absurd hl h.1
  have HP := hide hp
  have GD := hide hp.good
  subst hX hY hV
  clear hf hp
  go_enter Try.func18, Try.ntmps18
  go_wp2_with fail
  refine (sNewRooms_calls _).mono ?_
  rintro e w1 ⟨f1, h1, rfl, d1, b1⟩
  obtain ⟨a1, c1, a2, c2, rfl, rfl⟩ := d1.sl
  have A1 := A0.out.step b1
  have bx := below_box w1 (.cells #[.slice a1 newM.length c1, .slice a2 ([] : List Hl).length c2] 29)
  have X1 := BoxAt.new w1 #[.slice a1 newM.length c1, .slice a2 ([] : List Hl).length c2] 29
  have s1 := b1.size
  simp only [World.size_alloc] at s1
  have Q1 : Hid (Rqs w (w1.alloc (.cells #[.slice a1 newM.length c1, .slice a2 ([] : List Hl).length c2] 29)) w1.heap.size w1.heap.size (w.heap.size + 1) w1.heap.size (.slice a1 newM.length c1) (.slice a2 ([] : List Hl).length c2) (.slice none 0 0) (M 0) (H 0) 0 (tldV V 0)) := by
    rw [HP.out.m0, HP.out.h0]
    exact ⟨(A1.step bx).atBox 0 rfl, X1, ((d1.wider (by simp) (Nat.le_refl _)).below bx).tBox X1, World.ownsRow_nil _ _ _ _, fun k hk => by simp [Value.ownBlock] at hk, by simp, by omega, by omega, by simp, (A1.step bx).below, rfl⟩
  clear b1 d1 A0 A1 bx X1
  go_wp2
  go_loopw [6, 19] (fun vt vi wr => ∃ (i t lo hi : Nat) (f h : Value), i ≤ ns.length ∧ vi = .int .i64 i ∧ Rqs w wr w1.heap.size t lo hi f h vt (M i) (H i) i (tldV V i)) (fun _ vi _ => ns.length - (intOf vi).toNat)
  case atStart => exact ⟨0, _, _, _, _, _, Nat.zero_le _, rfl, Q1.out⟩
  case round =>
    obtain ⟨i, t, lo, hi, f, h, hi', rfl, hP⟩ := hrel
    have P := hide hP
    obtain ⟨af, cf, ah, ch, rfl, rfl⟩ := hP.rom.v.sl
    obtain ⟨av, cv, rfl⟩ := row_slice hP.row
    have six := hide hP.six
    clear hP Q1
    by_cases hlt : i < ns.length
    · have hlt' : (i : Int) < (ns.length : Int) := by omega
      obtain ⟨b, off, rfl, hc1⟩ := (R.out.below P.out.bel).cellAt i hlt
      have ST := hide ((HP.out.step i).cases (GD.out i))
      have G2 := hide (GD.out (i + 1))
      generalize ns.getD i 0 = n at hc1 ST
      obtain ⟨q1, hq1⟩ := bol_exR (1 ≤ n ∧ n ≤ 32)
      obtain ⟨q2, hq2⟩ := bol_exR (-32 ≤ n ∧ n ≤ 0)
      have I1 := hide (fun W => rIn_calls n 1 32 q1 W hq1)
      have I2 := hide (fun W => rIn_calls n (-32) 0 q2 W hq2)
      have HQ1 := hide hq1
      have HQ2 := hide hq2
      clear hq1 hq2
      obtain ⟨c0, c1⟩ := P.out.box.c2
      have f0 := P.out.box.frozen 0
      have f1 := P.out.box.frozen 1
      have hsix := (GD.out (i + 1)).len
      have HS6 := hide hsix
      clear hsix
      go_upto_if 24 with (go_at_call 68; refine (I1.out _).mono ?_; rintro e w' ⟨rfl, rfl⟩)
      go_cut [9] (fun s9 wx => ∃ (t lo hi : Nat) (f h : Value), s9 = .int .i64 (V i) ∧ Rqs w wx w1.heap.size t lo hi f h (.slice av i cv) (M (i + 1)) (H (i + 1)) i (tldV V i))
      case first =>
        rcases ST.out with ⟨ho, hall, eX, eY, eV⟩ | ⟨ho, o, a', r, h1, h2, h3, h4, eX, eY, eV⟩ | ⟨hb, hno, eX, eY, eV⟩ | ⟨hb, an, o, e, hin, eX, eY, eV⟩ | ⟨hn1, hn2, eX, eY, eV⟩
        · obtain rfl : q1 = true := HQ1.out.2 ho
          have EX := hide eX
          have EY := hide eY
          have EV := hide eV
          have TK := hide (fun W (q1 : RdM W (.slice af (M i).length cf) (M i)) (q2 : RdH W (.slice ah (H i).length ch) (H i)) => l14TakeNo_calls _ _ (M i) (H i) n W q1 q2 six.out ho hall)
          clear ST eX eY eV ho hall
          go_wp2_with fail
          refine (TK.out _ P.out.rom.v.rf P.out.rom.v.rh).mono ?_
          rintro e w5 ⟨rfl, b5⟩
          have P5 := hide (P.out.below b5)
          clear c0 c1 f0 f1 b5 TK
          obtain ⟨c0, c1⟩ := P5.out.box.c2
          have f0 := P5.out.box.frozen 0
          have f1 := P5.out.box.frozen 1
          have P6 := hide P5.out.again
          go_wp2
          go_meet
          exact ⟨t, lo, hi, _, _, by rw [EV.out], by rw [EX.out, EY.out]; exact P6.out⟩
        · obtain rfl : q1 = true := HQ1.out.2 ho
          have TK := hide (fun W d q1 q2 => l14TakeT_calls (.slice af (M i).length cf) (.slice ah (H i).length ch) (M i) (H i) n lo hi t W d q1 q2 (GD.out i) ho o a' r h1 h2 h3 h4)
          rw [← eX, ← eY, ← eV] at TK
          clear ST eX eY eV ho h1 h2 h3 h4
          go_wp2_with fail
          refine (TK.out _ P.out.rom P.out.tw P.out.hi1).mono ?_
          rintro e w5 ⟨h5, rfl, d5, ch5⟩
          obtain ⟨X5, WR⟩ := P.out.wrote d5 ch5 HS6.out
          obtain ⟨a6, k6, rfl⟩ := d5.held.slice
          have P6 := hide (WR w5 (Below.refl _ _))
          clear c0 c1 f0 f1 TK d5 ch5 WR
          obtain ⟨c0, c1⟩ := X5.c2
          have f0 := X5.frozen 0
          have f1 := X5.frozen 1
          go_wp2
          go_meet
          exact ⟨t, lo, w5.heap.size, _, _, rfl, P6.out⟩
        · obtain rfl : q2 = true := HQ2.out.2 hb
          obtain rfl : q1 = false := by cases q1 with | false => rfl | true => have := (HQ1.out.1 rfl).1; omega
          have EX := hide eX
          have EY := hide eY
          have EV := hide eV
          obtain ⟨hb1, hb2⟩ := hb
          have TK := hide (fun W (q1 : RdM W (.slice af (M i).length cf) (M i)) (q2 : RdH W (.slice ah (H i).length ch) (H i)) => l14GiveNo_calls _ _ (M i) (H i) (-n) W q1 q2 hno)
          clear ST eX eY eV hno
          go_wp2_with (go_at_call 68; refine (I2.out _).mono ?_; rintro e w' ⟨rfl, rfl⟩)
          refine (TK.out _ P.out.rom.v.rf P.out.rom.v.rh).mono ?_
          rintro e w5 ⟨rfl, b5⟩
          have N5 := BoxAt.new w5 #[.slice af (M i).length cf, .slice ah (H i).length ch] 29
          have P5 := hide (P.out.below (b5.trans ((below_box w5 (.cells #[.slice af (M i).length cf, .slice ah (H i).length ch] 29)).mono b5.size)))
          clear c0 c1 f0 f1 b5 TK
          obtain ⟨n0, n1⟩ := N5.c2
          obtain ⟨c0, c1⟩ := P5.out.box.c2
          have f0 := P5.out.box.frozen 0
          have f1 := P5.out.box.frozen 1
          have P6 := hide P5.out.again
          clear N5
          go_wp2_with (go_at_call 70; refine (rBit_calls false _).mono ?_; rintro e w' ⟨rfl, rfl⟩)
          go_meet
          exact ⟨t, lo, hi, _, _, by rw [EV.out], by rw [EX.out, EY.out]; exact P6.out⟩
        · obtain rfl : q2 = true := HQ2.out.2 hb
          obtain rfl : q1 = false := by cases q1 with | false => rfl | true => have := (HQ1.out.1 rfl).1; omega
          have EV := hide eV
          obtain ⟨hb1, hb2⟩ := hb
          have TK := hide (fun W d q1 q2 => l14GiveT_calls (.slice af (M i).length cf) (.slice ah (H i).length ch) (M i) (H i) an o lo hi t W d q1 q2 (GD.out i) hin)
          rw [← eX, ← eY] at TK
          clear ST eX eY eV hin
          go_wp2_with (go_at_call 68; refine (I2.out _).mono ?_; rintro e w' ⟨rfl, rfl⟩)
          refine (TK.out _ P.out.rom P.out.tw P.out.hi1).mono ?_
          rintro e w5 ⟨h5, rfl, d5, ch5⟩
          obtain ⟨X5, WR⟩ := P.out.wrote d5 ch5 HS6.out
          obtain ⟨a6, k6, rfl⟩ := d5.held.slice
          have bx := below_box w5 (.cells #[.slice af (M i).length cf, .slice a6 (H (i + 1)).length k6] 29)
          have N5 := BoxAt.new w5 #[.slice af (M i).length cf, .slice a6 (H (i + 1)).length k6] 29
          have P6 := hide (WR _ bx)
          have X6 := X5.below bx
          clear c0 c1 f0 f1 TK d5 ch5 WR X5 bx
          obtain ⟨n0, n1⟩ := N5.c2
          obtain ⟨c0, c1⟩ := X6.c2
          have f0 := X6.frozen 0
          have f1 := X6.frozen 1
          clear N5 X6
          go_wp2_with (go_at_call 70; refine (rBit_calls true _).mono ?_; rintro e w' ⟨rfl, rfl⟩)
          go_meet
          exact ⟨t, lo, w5.heap.size, _, _, by rw [EV.out], P6.out⟩
        · obtain rfl : q1 = false := by cases q1 with | false => rfl | true => exact absurd (HQ1.out.1 rfl) hn1
          obtain rfl : q2 = false := by cases q2 with | false => rfl | true => exact absurd (HQ2.out.1 rfl) hn2
          have EX := hide eX
          have EY := hide eY
          have EV := hide eV
          clear ST eX eY eV hn1 hn2
          go_wp2_with (go_at_call 68; refine (I2.out _).mono ?_; rintro e w' ⟨rfl, rfl⟩)
          go_meet
          exact ⟨t, lo, hi, _, _, by rw [EV.out], by rw [EX.out, EY.out]; exact P.out⟩
      case rest =>
        obtain ⟨t2, lo2, hi2, f2, h2, rfl, hP2⟩ := hcut
        have P2 := hide hP2
        clear hP2 P ST c0 c1 f0 f1 I1 I2 HQ1 HQ2
        have TS := hide (tldV_succ V i)
        obtain ⟨z, hz⟩ : ∃ z, z = V i := ⟨_, rfl⟩
        rw [← hz] at TS ⊢
        clear hz
        have Pa := hide (P2.out.below (below_box wc (.cells #[.int .i64 z] 3)))
        have BS := Pa.out.bel.size
        have X1 := Pa.out.x1
        have XL := Pa.out.box.lt
        go_wp2_with (at_builtin; refine wpList_append_int1 rfl _ _ rfl (w.heap.size + 1) _ i (tldV V i) z rfl Pa.out.row wc.heap.size rfl (World.cell?_alloc_at _ _ _ _ (by simp)) (by omega) (by omega) ?_)
        intro g9 k9 w9 o9 gr9 l9 lt9
        have P9 := Pa.out.tell (z := z) gr9 (by simpa using o9) (by simpa using l9) lt9
        rw [← TS.out] at P9
        have P9h := hide P9
        clear P9 o9 gr9 l9 lt9 Pa P2 BS X1 XL
        go_wp2
        go_roundw
        case rel => exact ⟨i + 1, g9, lo2, hi2, _, _, by omega, by go_num, P9h.out⟩
        case measure => simp [intOf]; omega
    · obtain rfl : i = ns.length := by omega
      have SMm := hide (GD.out ns.length).small
      obtain ⟨c0, c1⟩ := P.out.box.c2
      go_wp2_with fail
      refine (l14Own_calls _ _ (M ns.length) (H ns.length) _ P.out.rom.v.rf P.out.rom.v.rh SMm.out.1 SMm.out.2).mono ?_
      rintro e w4 ⟨f4, h4, rfl, d4, b4⟩
      obtain ⟨a5, k5, a6, k6, rfl, rfl⟩ := d4.sl
      have P4 := hide (P.out.below b4)
      have D4 := hide d4
      have S4 : Hid (wr.heap.size ≤ w4.heap.size) := b4.size
      have wl := P.out.bel.size
      have w1l := P.out.res.lt
      have tl := P.out.tw
      have TB := hide P.out.tb
      clear d4 b4 c0 c1 P
      have q0 := P4.out.res.c2.1
      have q1 := P4.out.res.c2.2
      have y0 := P4.out.res.frozen 0
      have y1 := P4.out.res.frozen 1
      have g := grown_tr (grown_setCell w4 w.heap.size 0 (.slice a5 (M ns.length).length k5)) (grown_setCell _ w.heap.size 1 (.slice a6 (H ns.length).length k6))
      have c := Chg.ofGrown (lo := w.heap.size) (hi := w.heap.size + 1) g (fun k hk => by cases hk; omega)
      have D9 := hide (D4.out.chg c (by omega))
      have X9 := hide ((P4.out.res.set 0 (.slice a5 (M ns.length).length k5)).set 1 (.slice a6 (H ns.length).length k6))
      have O9 := hide (ownsRow_mono (World.ownsRow.kept P4.out.row g (.inr (P4.out.res.offT P4.out.row (by decide)))) (show w.heap.size ≤ w.heap.size + 1 by omega))
      have B9 := hide (P4.out.bel.grown g P4.out.bel.size (fun k hk => by cases hk; omega))
      have G9 := hide g.size
      clear g c
      go_wp2
      refine bodyPost_ret (res_rm3 rfl _ _ w.heap.size _ _ (0, 0) rfl X9.out) rfl ⟨_, _, _, wr.heap.size, w4.heap.size, rfl, D9.out, ?_, fun k hk => .inl (by rw [TB.out k hk]; exact tl), wl, G9.out, B9.out⟩
      have o9 := O9.out
      show World.ownsRow _ _ _ _ _ _ _
      rw [tldV_len]
      exact o9
end Go.Proofs.Ytjffjoednmlkiaa

namespace Go.Proofs.Ytjffjoednmlkiaa
open Go.RowKit
set_option linter.unusedVariables false

/-- Rooms and a row that lies not among them. -/
def TRpl (f h v : Value) (X : List (List Int)) (Y : List Hl) (V : List Int) : Tg := fun lo hi w => ∃ l u, (lo ≤ l ∧ u ≤ hi) ∧ RomV w l u f h X Y ∧ Own w lo v V ∧ ∀ k, v.ownBlock = some k → k < hi ∧ (k < l ∨ u ≤ k)
theorem TRpl.st (f h v : Value) (X : List (List Int)) (Y : List Hl) (V : List Int) : (TRpl f h v X Y V).st := fun lo hi a b w w' ⟨l, u, h1, h2, h3, h4⟩ hc hd =>
  ⟨l, u, h1, h2.chg hc (by omega), ownsRow_chg h3 (fun k hk => (h4 k hk).1) hc hd, h4⟩
theorem own_out {w w' : World} {base lo hi n : Nat} {e : TypeId} {v : Value} {xs : List Value} (h : w.ownsRow base e 1 v n xs) (ho : ∀ k, v.ownBlock = some k → k < lo ∨ hi ≤ k) (hc : Chg lo hi w w') : w'.ownsRow base e 1 v n xs := by
  refine ⟨h.1, ?_⟩
  rcases h.2 with hn | ⟨g, cap, cur, rfl, hb', hg, rest⟩
  · exact .inl hn
  · exact .inr ⟨g, cap, cur, rfl, hb', by rw [hc.block g (Array.getElem?_eq_some_iff.1 hg).1 (ho g rfl)]; exact hg, rest⟩
set_option maxRecDepth 100000 in
theorem markRoomsR_calls (f h v : Value) (X : List (List Int)) (Y : List Hl) (V : List Int) (lo hi : Nat) (w : World) (d : TRpl f h v X Y V lo hi w) (hh : hi ≤ w.heap.size) (hz : X.length + tot X ≤ 1048576) (hz2 : Y.length ≤ 1048576) :
    Calls Try.prog 16 #[.agg #[f, h], .int .i64 1] w fun e w' => e = .returned (.int .i64 (enR X Y)) ∧ TRpl f h v (marksM 1 X) (mkH (1 + (tot X : Int)) Y.length) V lo hi w' ∧ Chg lo hi w w' := by
  obtain ⟨l, u, h1, h2, h3, h4⟩ := d
  refine (markRooms_calls f h X Y l u w h2 (by omega) hz hz2).mono ?_
  rintro e w' ⟨rfl, d', c⟩
  exact ⟨rfl, ⟨l, u, h1, d', own_out h3 (fun k hk => (h4 k hk).2) c, h4⟩, c.wider h1.1 h1.2⟩
set_option maxRecDepth 100000 in
theorem markRow_calls (f h v : Value) (X : List (List Int)) (Y : List Hl) (V : List Int) (k : Int) (lo hi : Nat) (w : World) (d : TRpl f h v X Y V lo hi w) (hk0 : 0 ≤ k) (hk : k ≤ 1099511627776) (hn : V.length ≤ 1048576) :
    Calls Try.prog 22 #[v, .int .i64 k] w fun e w' => e = .returned (.int .i64 (k + (V.length : Int))) ∧ TRpl f h v X Y (marks k V.length) lo hi w' ∧ Chg lo hi w w' := by
  obtain ⟨l, u, h1, h2, h3, h4⟩ := d
  refine (markIntS_calls v V k lo w h3 hk0 hk (by omega)).mono ?_
  rintro e w' ⟨rfl, o, g⟩
  have c : Chg lo hi w w' := Chg.ofGrown g (fun j hj => ⟨row_low h3 j hj, (h4 j hj).1⟩)
  refine ⟨rfl, ⟨l, u, h1, ?_, o, h4⟩, c⟩
  cases e : v.ownBlock with
  | none => exact h2.chg (Chg.ofGrown (lo := u) (hi := u) g (fun j hj => by rw [e] at hj; cases hj)) (.inl (Nat.le_refl _))
  | some j =>
    have := (h4 j e).2
    exact h2.chg (Chg.ofGrown (lo := j) (hi := j + 1) g (fun i hi => by rw [e] at hi; cases hi; omega)) (by omega)
end Go.Proofs.Ytjffjoednmlkiaa

namespace Go.Proofs.Ytjffjoednmlkiaa
open Go.RowKit
set_option linter.unusedVariables false

set_option maxRecDepth 100000 in
set_option maxHeartbeats 3200000 in
theorem fnExactPlayRooms_walk (l : Value) (ls : List Int) (w : World) (hl : Rd w l ls) (hw : ∀ i, i < ls.length → -9223372036854775808 ≤ ls.getD i 0) :
    Calls Try.prog 4 #[l] w fun e w' => e = .returned (.bool true) ∧ Below w.heap.size w w' := by
  have RL := hide hl
  obtain ⟨a, cap, rfl, hcap, hcm, _⟩ := hl
  have hm := hcm.1
  unfold maxLen at hm
  clear hcm
  obtain ⟨X, Y, B, ok, hf⟩ := rpAt_ex ls
  have C1 := hide (fun V p h => sPlayRooms_calls p ls X Y B ok V h hf)
  have C2 := hide (fun V p h => playRooms_calls p ls X Y B ok V h hw hf)
  have SX := hide hf.len
  clear hf hw
  by_cases hz : ls.length ≤ 1048576
  case neg =>
    have hz' : (1048576 : Int) < (ls.length : Int) := by omega
    go_enter Try.func4, Try.ntmps4
    go_wp2
    go_ret
    exact ⟨rfl, Below.refl _ _⟩
  have hz' : ¬ (1048576 : Int) < (ls.length : Int) := by omega
  have A0 := hide (Hand.start w)
  go_enter Try.func4, Try.ntmps4
  go_wp2_with fail
  refine (toIntS_calls _ ls _ (RL.out.below A0.out.below) hz).mono ?_
  rintro e w1 ⟨vX0, rfl, o, q⟩
  obtain ⟨aX0, cX0, rfl⟩ := row_slice o
  have A1 := hide (A0.out.add q (TInts.st _ _) ⟨o, row_top o⟩)
  clear A0 q o
  obtain ⟨loX0, hiX0, dX0⟩ := A1.out.get 0 rfl
  have DX0 := hide (Own.rd dX0.1)
  clear dX0
  go_wp2_with fail
  refine (C1.out _ _ DX0.out).mono ?_
  rintro e w2 ⟨lW, rW, vW, q1, q2, rfl, d, o, hap, hq1, hq2, q⟩
  obtain ⟨alW, clW, arW, crW, rfl, rfl⟩ := d.sl
  obtain ⟨aW, cW, rfl⟩ := row_slice o
  have A2 := hide ((A1.out.add q (TRpl.st _ _ _ _ _ _) ⟨q1, q2, ⟨hq1, hq2⟩, d, o, fun k hk => ⟨row_top o k hk, hap k hk⟩⟩).box #[.slice alW X.length clW, .slice arW Y.length crW] 29)
  clear A1 DX0 loX0 hiX0 q d o hap hq1 hq2 q1 q2
  go_wp2_with fail
  refine (toIntS_calls _ ls _ (RL.out.below A2.out.below) hz).mono ?_
  rintro e w3 ⟨vx, rfl, o, q⟩
  obtain ⟨ax, cx, rfl⟩ := row_slice o
  have A3 := hide (A2.out.add q (TInts.st _ _) ⟨o, row_top o⟩)
  clear A2 q o
  obtain ⟨lox, hix, dx⟩ := A3.out.get 0 rfl
  have Dx := hide (Own.rd dx.1)
  clear dx
  go_wp2_with fail
  refine (C2.out _ _ Dx.out).mono ?_
  rintro e w4 ⟨lg, rg, vg, q1, q2, rfl, d, o, hap, hq1, hq2, q⟩
  obtain ⟨alg, clg, arg, crg, rfl, rfl⟩ := d.sl
  obtain ⟨ag, cg, rfl⟩ := row_slice o
  have A4 := hide ((A3.out.add q (TRpl.st _ _ _ _ _ _) ⟨q1, q2, ⟨hq1, hq2⟩, d, o, fun k hk => ⟨row_top o k hk, hap k hk⟩⟩).box #[.slice alg X.length clg, .slice arg Y.length crg] 29)
  clear A3 Dx lox hix q d o hap hq1 hq2 q1 q2
  obtain ⟨cbg0, cbg1⟩ := (A4.out.atBox 0 rfl).c2
  obtain ⟨cbW0, cbW1⟩ := (A4.out.atBox 3 rfl).c2
  obtain ⟨log, hig, dg⟩ := A4.out.get 1 rfl
  obtain ⟨q1g, q2g, qhg, d1g, d2g, qag⟩ := dg
  have Dg := hide d1g
  have Eg := hide (Own.rd d2g)
  clear d1g d2g qhg qag
  obtain ⟨loW, hiW, dW⟩ := A4.out.get 4 rfl
  obtain ⟨q1W, q2W, qhW, d1W, d2W, qaW⟩ := dW
  have DW := hide d1W
  have EW := hide (Own.rd d2W)
  clear d1W d2W qhW qaW
  go_wp2_with fail
  refine (eqRooms_same _ _ _ _ X Y _ Dg.out.rf Dg.out.rh DW.out.rf DW.out.rh).mono ?_
  rintro e w5 ⟨rfl, q⟩
  have A5 := hide (A4.out.step q)
  clear A4 cbg0 cbg1 cbW0 cbW1 Eg q1g q2g Dg log hig EW q1W q2W DW loW hiW q
  obtain ⟨log, hig, dg⟩ := A5.out.get 1 rfl
  obtain ⟨q1g, q2g, qhg, d1g, d2g, qag⟩ := dg
  have Dg := hide d1g
  have Eg := hide (Own.rd d2g)
  clear d1g d2g qhg qag
  obtain ⟨loW, hiW, dW⟩ := A5.out.get 4 rfl
  obtain ⟨q1W, q2W, qhW, d1W, d2W, qaW⟩ := dW
  have DW := hide d1W
  have EW := hide (Own.rd d2W)
  clear d1W d2W qhW qaW
  go_wp2_with fail
  refine (eqIntS_same _ _ B _ Eg.out EW.out).mono ?_
  rintro e w6 ⟨rfl, q⟩
  have A6 := hide (A5.out.step q)
  clear A5 Eg q1g q2g Dg log hig EW q1W q2W DW loW hiW q
  go_wp2_with fail
  refine (toIntS_calls _ ls _ (RL.out.below A6.out.below) hz).mono ?_
  rintro e w7 ⟨vy, rfl, o, q⟩
  obtain ⟨ay, cy, rfl⟩ := row_slice o
  have A7 := hide (A6.out.add q (TInts.st _ _) ⟨o, row_top o⟩)
  clear A6 q o
  obtain ⟨lox, hix, dx⟩ := A7.out.get 3 rfl
  have Dx := hide (Own.rd dx.1)
  clear dx
  obtain ⟨loy, hiy, dy⟩ := A7.out.get 0 rfl
  have Dy := hide (Own.rd dy.1)
  clear dy
  go_wp2_with fail
  refine (eqIntS_same _ _ ls _ Dx.out Dy.out).mono ?_
  rintro e w8 ⟨rfl, q⟩
  have A8 := hide (A7.out.step q)
  clear A7 Dx lox hix Dy loy hiy q
  obtain ⟨lox, hix, dx, lw, hw, put⟩ := A8.out.open 3 rfl
  have PUT := hide put
  have HW := hide hw
  clear put lw hw
  have Dx := hide dx.1
  have TDx := hide dx.2
  clear dx
  go_wp2_with fail
  refine (markIntS_calls _ ls 1 _ _ Dx.out (by omega) (by omega) (by omega)).mono ?_
  rintro e w9 ⟨rfl, o4, g4⟩
  have A9 := hide (PUT.out _ (TInts _ _) (TInts.st _ _) ⟨o4, TDx.out⟩ (Chg.ofGrown g4 (fun j hj => ⟨row_low Dx.out j hj, TDx.out j hj⟩)))
  clear A8 lox hix PUT HW Dx TDx o4 g4
  have kn : ¬ ((1 : Int) + (ls.length : Int) < 0) := by omega
  obtain ⟨cbg0, cbg1⟩ := (A9.out.atBox 1 rfl).c2
  obtain ⟨cbW0, cbW1⟩ := (A9.out.atBox 4 rfl).c2
  obtain ⟨log, hig, dg⟩ := A9.out.get 2 rfl
  obtain ⟨q1g, q2g, qhg, d1g, d2g, qag⟩ := dg
  have Dg := hide d1g
  have Eg := hide (Own.rd d2g)
  clear d1g d2g qhg qag
  obtain ⟨loW, hiW, dW⟩ := A9.out.get 5 rfl
  obtain ⟨q1W, q2W, qhW, d1W, d2W, qaW⟩ := dW
  have DW := hide d1W
  have EW := hide (Own.rd d2W)
  clear d1W d2W qhW qaW
  go_wp2_with fail
  refine (eqRooms_same _ _ _ _ X Y _ Dg.out.rf Dg.out.rh DW.out.rf DW.out.rh).mono ?_
  rintro e w10 ⟨rfl, q⟩
  have A10 := hide (A9.out.step q)
  clear A9 cbg0 cbg1 cbW0 cbW1 Eg q1g q2g Dg log hig EW q1W q2W DW loW hiW q
  obtain ⟨log, hig, dg⟩ := A10.out.get 2 rfl
  obtain ⟨q1g, q2g, qhg, d1g, d2g, qag⟩ := dg
  have Dg := hide d1g
  have Eg := hide (Own.rd d2g)
  clear d1g d2g qhg qag
  obtain ⟨loW, hiW, dW⟩ := A10.out.get 5 rfl
  obtain ⟨q1W, q2W, qhW, d1W, d2W, qaW⟩ := dW
  have DW := hide d1W
  have EW := hide (Own.rd d2W)
  clear d1W d2W qhW qaW
  go_wp2_with fail
  refine (eqIntS_same _ _ B _ Eg.out EW.out).mono ?_
  rintro e w11 ⟨rfl, q⟩
  have A11 := hide (A10.out.step q)
  clear A10 Eg q1g q2g Dg log hig EW q1W q2W DW loW hiW q
  obtain ⟨cbg0, cbg1⟩ := (A11.out.atBox 1 rfl).c2
  obtain ⟨log, hig, dg, lw, hw, put⟩ := A11.out.open 2 rfl
  have PUT := hide put
  have HW := hide hw
  have Dg : Hid (TRpl _ _ _ _ _ _ log hig _) := dg
  clear put lw hw dg
  go_wp2_with fail
  refine (markRoomsR_calls _ _ _ X Y B _ _ _ Dg.out HW.out SX.out.1.1 SX.out.1.2).mono ?_
  rintro e w12 ⟨rfl, d4, q⟩
  have A12 := hide (PUT.out _ (TRpl _ _ _ _ _ _) (TRpl.st _ _ _ _ _ _) d4 q)
  clear A11 cbg0 cbg1 log hig PUT HW Dg q d4
  obtain ⟨mm, hmm⟩ : ∃ mm, mm = enR X Y := ⟨_, rfl⟩
  rw [← hmm]
  have MM := hide hmm
  have mk : 0 ≤ mm ∧ mm ≤ 1099511627776 := by have h1 := SX.out.1.1; have h2 := SX.out.1.2; rw [hmm]; unfold enR; omega
  have mn : ¬ (mm < 0) := by omega
  have bl : B.length ≤ 1048576 := SX.out.2
  have mn2 : ¬ (mm + (B.length : Int) < 0) := by omega
  clear hmm
  obtain ⟨log, hig, dg, lw, hw, put⟩ := A12.out.open 2 rfl
  have PUT := hide put
  have HW := hide hw
  have Dg : Hid (TRpl _ _ _ _ _ _ log hig _) := dg
  clear put lw hw dg
  go_wp2_with fail
  refine (markRow_calls _ _ _ _ _ B mm _ _ _ Dg.out mk.1 mk.2 bl).mono ?_
  rintro e w13 ⟨rfl, d4, q⟩
  have A13 := hide (PUT.out _ (TRpl _ _ _ _ _ _) (TRpl.st _ _ _ _ _ _) d4 q)
  clear A12 log hig PUT HW Dg q d4
  obtain ⟨cbg0, cbg1⟩ := (A13.out.atBox 1 rfl).c2
  obtain ⟨log, hig, dg⟩ := A13.out.get 2 rfl
  obtain ⟨q1g, q2g, qhg, d1g, d2g, qag⟩ := dg
  have Dg := hide d1g
  have Eg := hide (Own.rd d2g)
  clear d1g d2g qhg qag
  go_wp2_with fail
  refine (heldRooms_calls _ _ X Y _ Dg.out.rf Dg.out.rh SX.out.1.1 SX.out.1.2).mono ?_
  rintro e w14 ⟨rfl, q⟩
  have A14 := hide (A13.out.step q)
  clear A13 cbg0 cbg1 Eg q1g q2g Dg log hig q
  rw [← MM.out]
  obtain ⟨log, hig, dg⟩ := A14.out.get 2 rfl
  obtain ⟨q1g, q2g, qhg, d1g, d2g, qag⟩ := dg
  have Dg := hide d1g
  have Eg := hide (Own.rd d2g)
  clear d1g d2g qhg qag
  go_wp2_with fail
  refine (heldIntS_calls _ B.length mm _ Eg.out mk.1 mk.2 (by omega)).mono ?_
  rintro e w15 ⟨rfl, rfl⟩
  clear Eg q1g q2g Dg log hig
  go_wp2_with fail
  refine (toIntS_calls _ ls _ (RL.out.below A14.out.below) hz).mono ?_
  rintro e w16 ⟨vz, rfl, o, q⟩
  obtain ⟨az, cz, rfl⟩ := row_slice o
  have A16 := hide (A14.out.add q (TInts.st _ _) ⟨o, row_top o⟩)
  clear A14 q o
  obtain ⟨loz, hiz, dz⟩ := A16.out.get 0 rfl
  have Dz := hide (Own.rd dz.1)
  clear dz
  go_wp2_with fail
  refine (C2.out _ _ Dz.out).mono ?_
  rintro e w17 ⟨lh, rh, vh, q1, q2, rfl, d, o, hap, hq1, hq2, q⟩
  obtain ⟨alh, clh, arh, crh, rfl, rfl⟩ := d.sl
  obtain ⟨ah, ch, rfl⟩ := row_slice o
  have A17 := hide ((A16.out.add q (TRpl.st _ _ _ _ _ _) ⟨q1, q2, ⟨hq1, hq2⟩, d, o, fun k hk => ⟨row_top o k hk, hap k hk⟩⟩).box #[.slice alh X.length clh, .slice arh Y.length crh] 29)
  clear A16 Dz loz hiz q d o hap hq1 hq2 q1 q2
  obtain ⟨cbh0, cbh1⟩ := (A17.out.atBox 0 rfl).c2
  obtain ⟨cbW0, cbW1⟩ := (A17.out.atBox 7 rfl).c2
  obtain ⟨loh, hih, dh⟩ := A17.out.get 1 rfl
  obtain ⟨q1h, q2h, qhh, d1h, d2h, qah⟩ := dh
  have Dh := hide d1h
  have Eh := hide (Own.rd d2h)
  clear d1h d2h qhh qah
  obtain ⟨loW, hiW, dW⟩ := A17.out.get 8 rfl
  obtain ⟨q1W, q2W, qhW, d1W, d2W, qaW⟩ := dW
  have DW := hide d1W
  have EW := hide (Own.rd d2W)
  clear d1W d2W qhW qaW
  go_wp2_with fail
  refine (eqRooms_same _ _ _ _ X Y _ Dh.out.rf Dh.out.rh DW.out.rf DW.out.rh).mono ?_
  rintro e w18 ⟨rfl, q⟩
  have A18 := hide (A17.out.step q)
  clear A17 cbh0 cbh1 cbW0 cbW1 Eh q1h q2h Dh loh hih EW q1W q2W DW loW hiW q
  obtain ⟨loh, hih, dh⟩ := A18.out.get 1 rfl
  obtain ⟨q1h, q2h, qhh, d1h, d2h, qah⟩ := dh
  have Dh := hide d1h
  have Eh := hide (Own.rd d2h)
  clear d1h d2h qhh qah
  obtain ⟨loW, hiW, dW⟩ := A18.out.get 8 rfl
  obtain ⟨q1W, q2W, qhW, d1W, d2W, qaW⟩ := dW
  have DW := hide d1W
  have EW := hide (Own.rd d2W)
  clear d1W d2W qhW qaW
  go_wp2_with fail
  refine (eqIntS_same _ _ B _ Eh.out EW.out).mono ?_
  rintro e w19 ⟨rfl, q⟩
  have A19 := hide (A18.out.step q)
  clear A18 Eh q1h q2h Dh loh hih EW q1W q2W DW loW hiW q
  obtain ⟨cbg0, cbg1⟩ := (A19.out.atBox 4 rfl).c2
  obtain ⟨log, hig, dg⟩ := A19.out.get 5 rfl
  obtain ⟨q1g, q2g, qhg, d1g, d2g, qag⟩ := dg
  have Dg := hide d1g
  have Eg := hide (Own.rd d2g)
  clear d1g d2g qhg qag
  go_wp2_with fail
  refine (heldRooms_calls _ _ X Y _ Dg.out.rf Dg.out.rh SX.out.1.1 SX.out.1.2).mono ?_
  rintro e w20 ⟨rfl, q⟩
  have A20 := hide (A19.out.step q)
  clear A19 cbg0 cbg1 Eg q1g q2g Dg log hig q
  rw [← MM.out]
  obtain ⟨log, hig, dg⟩ := A20.out.get 5 rfl
  obtain ⟨q1g, q2g, qhg, d1g, d2g, qag⟩ := dg
  have Dg := hide d1g
  have Eg := hide (Own.rd d2g)
  clear d1g d2g qhg qag
  go_wp2_with fail
  refine (heldIntS_calls _ B.length mm _ Eg.out mk.1 mk.2 (by omega)).mono ?_
  rintro e w21 ⟨rfl, rfl⟩
  clear Eg q1g q2g Dg log hig
  go_wp2
  go_ret
  exact ⟨rfl, A20.out.below⟩
end Go.Proofs.Ytjffjoednmlkiaa

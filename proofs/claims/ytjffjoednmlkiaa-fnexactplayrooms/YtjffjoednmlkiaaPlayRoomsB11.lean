/-
  Rooms as values (rows of free places, and held rooms), and what the laws do with them: copy, measure, compare, mark, look for the marks. Each contract says what it asks. Arguments that came in: lists of integers, rows of them: what reading them tells. No condition. Arguments opened: a slice of held rooms, rooms. No condition; no call is walked here.
-/
import Derived.Test.YtjffjoednmlkiaaPlayRoomsB10
import Derived.Test.YtjffjoednmlkiaaPlayRoomsB5
import Derived.ProofKit
import Derived.OpenShut
import Derived.Deep.Matrix
import Derived.Test.YtjffjoednmlkiaaPlayRoomsB0
import Derived.Lib.SmallJoins
import Derived.SliceStrings
import Derived.Deep.Slices
import Derived.Deep.Strs
namespace Go.Proofs.Ytjffjoednmlkiaa
open Go.RowKit
set_option linter.unusedVariables false

/-- Rooms' two lists, of the call's own, in blocks from lo up to hi. -/
structure RomV (w : World) (lo hi : Nat) (f h : Value) (m : List (List Int)) (hs : List Hl) : Prop where
  free : Mat w lo hi f m
  held : OwnH w lo h hs
  th : ∀ k, h.ownBlock = some k → k < hi
section
variable {w w' : World} {lo hi : Nat} {f h : Value} {m : List (List Int)} {hs : List Hl}
theorem Mat.chg {x y : Nat} (d : Mat w lo hi f m) (hc : Chg x y w w') (hd : hi ≤ x ∨ y ≤ lo) : Mat w' lo hi f m := by
  obtain ⟨vs, d⟩ := d
  exact ⟨vs, d.chg hc hd⟩
theorem RomV.chg {x y : Nat} (d : RomV w lo hi f h m hs) (hc : Chg x y w w') (hd : hi ≤ x ∨ y ≤ lo) : RomV w' lo hi f h m hs :=
  ⟨d.free.chg hc hd, rowsChg d.held d.th hc hd, d.th⟩
theorem RomV.below (d : RomV w lo hi f h m hs) (hb : Below w.heap.size w w') : RomV w' lo hi f h m hs :=
  ⟨d.free.below hb, rowsBelow d.held hb, d.th⟩
theorem RomV.wider {lo' hi' : Nat} (d : RomV w lo hi f h m hs) (h1 : lo' ≤ lo) (h2 : hi ≤ hi') : RomV w lo' hi' f h m hs :=
  ⟨d.free.wider h1 h2, rowsMono d.held h1, fun k hk => Nat.lt_of_lt_of_le (d.th k hk) h2⟩
theorem RomV.nil (w : World) (lo hi : Nat) : RomV w lo hi (.slice none 0 0) (.slice none 0 0) [] [] :=
  ⟨Mat.nil w lo hi, World.ownsRow_nil _ _ _ _, fun k hk => by simp [Value.ownBlock] at hk⟩
theorem RdM.sl (d : RdM w f m) : ∃ a cap, f = .slice a m.length cap ∧ m.length ≤ cap ∧ cap ≤ maxLen := by
  obtain ⟨a, cap, rfl, h1, h2, h3⟩ := d
  exact ⟨a, cap, rfl, h1, h2.1⟩
theorem RomV.rf (d : RomV w lo hi f h m hs) : RdM w f m := d.free.rd
theorem RomV.rh (d : RomV w lo hi f h m hs) : RdH w h hs := d.held.rd
theorem RomV.sl (d : RomV w lo hi f h m hs) : ∃ af cf ah ch, f = .slice af m.length cf ∧ h = .slice ah hs.length ch := by
  obtain ⟨af, cf, rfl, _⟩ := d.rf.sl
  obtain ⟨ah, ch, rfl⟩ := d.held.slice
  exact ⟨af, cf, ah, ch, rfl, rfl⟩
/-- The held rooms are written, or laid anew. -/
theorem RomV.chgH (d : RomV w lo hi f h m hs) (hg : w.grownBy w' h.ownBlock) : Chg lo hi w w' := Chg.ofGrown hg (fun k hk => ⟨d.held.low k hk, d.th k hk⟩)
theorem Mat.keptH (d : Mat w lo hi f m) (e : OwnH w lo h hs) (hg : w.grownBy w' h.ownBlock) : Mat w' lo hi f m := by
  obtain ⟨vs, d⟩ := d
  exact ⟨vs, d.len, World.ownsRow.kept d.head hg (types_apart d.head e (by decide)), fun i hi' => World.ownsRow.kept (d.row i hi') hg (types_apart (d.row i hi') e (by decide)), d.top, d.tops, d.apart⟩
theorem RomV.setH {hs' : List Hl} (d : RomV w lo hi f h m hs) (ho : OwnH w' lo h hs') (hg : w.grownBy w' h.ownBlock) : RomV w' lo hi f h m hs' :=
  ⟨d.free.keptH d.held hg, ho, d.th⟩
end
def TRom (f h : Value) (m : List (List Int)) (hs : List Hl) : Tg := fun lo hi w => RomV w lo hi f h m hs
theorem TRom.st (f h : Value) (m : List (List Int)) (hs : List Hl) : (TRom f h m hs).st := fun lo hi x y w w' d hc hd => d.chg hc hd
def TMat (v : Value) (m : List (List Int)) : Tg := fun lo hi w => Mat w lo hi v m
theorem TMat.st (v : Value) (m : List (List Int)) : (TMat v m).st := fun lo hi x y w w' d hc hd => Mat.chg d hc hd
/-- Rows and held rooms, held one above another, are rooms. -/
theorem Hand.rooms {W w : World} {L : List Tg} {f h : Value} {m : List (List Int)} {hs : List Hl} (A : Hand W w (THls h hs :: TMat f m :: L)) : RomV w W.heap.size w.heap.size f h m hs := by
  obtain ⟨lo1, hi1, ⟨_, o1, t1⟩, a1, a2, lo3, hi3, ⟨_, o2⟩, c1, c2, d⟩ := A.held
  have hb := d.base
  exact ⟨Mat.wider o2 hb (by omega), rowsMono o1 (by omega), fun k hk => by have := t1 k hk; omega⟩
theorem Hand.rooms' {W w : World} {L : List Tg} {f h : Value} {m : List (List Int)} {hs : List Hl} (A : Hand W w (TMat f m :: THls h hs :: L)) : RomV w W.heap.size w.heap.size f h m hs := by
  obtain ⟨lo1, hi1, ⟨_, o1⟩, a1, a2, lo3, hi3, ⟨_, o2, t2⟩, c1, c2, d⟩ := A.held
  have hb := d.base
  exact ⟨Mat.wider o1 (by omega) a2, rowsMono o2 hb, fun k hk => by have := t2 k hk; omega⟩
theorem Hand.rom {W w : World} {L : List Tg} {f h : Value} {m : List (List Int)} {hs : List Hl} (A : Hand W w L) (i : Nat) (hi : L[i]? = some (TRom f h m hs)) : RomV w W.heap.size w.heap.size f h m hs := by
  obtain ⟨lo, hi', d, h1, h2, _⟩ := A.open i hi
  exact d.wider h1 h2
abbrev nilR : Array Value := #[.slice none 0 0, .slice none 0 0]
theorem rmInfo : (Try.prog.info? 29).map (·.size) = some 2 := by kernel_rfl
theorem res_rm {fn : Func} {x : Tmp} (hf : fn.results = #[.cell x 29]) (tmps : Array Value) (w : World) (g : Nat) (a b : Value) (fr : Nat × Nat) (hp : tmps.getD x undef = .pointer (some ⟨g, 0, none⟩))
    (hg : w.heap[g]? = some (.cells #[a, b] 29 fr)) : (results fn tmps).run Try.prog w = .ok (.agg #[a, b]) w :=
  results_cell_row hf tmps w g _ _ fr _ hp hg Try.underlying29 rfl rmInfo
theorem Hand.setBoxT {W w : World} {L : List Tg} {g : Nat} {cs : Array Value} {T : TypeId} (A : Hand W w L) (i : Nat) (hi : L[i]? = some (TBox g cs T)) (j : Nat) (v : Value) :
    Hand W (w.setCell ⟨g, j, none⟩ v) (L.set i (TBox g (cs.setIfInBounds j v) T)) := by
  obtain ⟨lo, hi', ⟨b1, b2, b3⟩, _, _, put⟩ := A.open i hi
  exact put _ (TBox g (cs.setIfInBounds j v) T) (TBox.st _ _ _) ⟨b1, b2, b3.set j v⟩ (Chg.ofSetCell w g j v b1 b2)

set_option linter.unusedSimpArgs false in
set_option maxRecDepth 100000 in
set_option maxHeartbeats 1600000 in
theorem toRooms_calls (f h : Value) (m : List (List Int)) (hs : List Hl) (w : World) (hf : RdM w f m) (hh : RdH w h hs) (hzf : m.length + tot m ≤ 1048576) (hzh : hs.length ≤ 1048576) :
    Calls Try.prog 13 #[.agg #[f, h]] w fun e w' => ∃ f' h', e = .returned (.agg #[f', h']) ∧ RomV w' w.heap.size w'.heap.size f' h' m hs ∧ Below w.heap.size w w' := by
  have R1 := hide hf
  have R2 := hide hh
  obtain ⟨al, cl, rfl, _, _⟩ := hf.sl
  obtain ⟨ar, cr, rfl, _, _⟩ := hh.sl
  clear hf hh
  have A0 := hide (Hand.threeN w #[.slice al m.length cl, .slice ar hs.length cr] nilR nilR 25 29 29)
  go_enter Try.func13, Try.ntmps13
  go_wp2_with fail
  refine (toIntSS_calls _ m _ (R1.out.below A0.out.below) hzf).mono ?_
  rintro e w1 ⟨v1, rfl, o1, b1⟩
  obtain ⟨g1, k1, rfl, _⟩ := o1.rd.sl
  have A1 := hide (A0.out.add b1 (TMat.st _ _) o1)
  clear o1 b1 A0
  obtain ⟨c0, c1⟩ := (A1.out.atBox 1 rfl).c2
  obtain ⟨e0, e1⟩ := (A1.out.atBox 3 rfl).c2
  have f1 := (A1.out.atBox 1 rfl).frozen 0
  have A2 : Hid (Hand w _ [TMat _ m, TBox (w.heap.size + 1 + 1) #[.slice g1 m.length k1, .slice none 0 0] 29, TBox (w.heap.size + 1) nilR 29, TBox w.heap.size #[.slice al m.length cl, .slice ar hs.length cr] 25]) := A1.out.setBoxT 1 rfl 0 (.slice g1 m.length k1)
  clear A1
  go_wp2_with fail
  generalize w1.setCell ⟨w.heap.size + 1 + 1, 0, none⟩ (.slice g1 m.length k1) = w2 at *
  clear c0 c1 e0 e1 f1
  refine (toHeldS_calls _ hs _ (R2.out.below A2.out.below) hzh).mono ?_
  rintro e w3 ⟨g3, rfl, o3, b3⟩
  have A3 := hide (A2.out.add b3 (THls.st _ _) o3)
  clear o3 b3 A2
  obtain ⟨c0, c1⟩ := (A3.out.atBox 2 rfl).c2
  obtain ⟨d0, d1⟩ := (A3.out.atBox 3 rfl).c2
  obtain ⟨e0, e1⟩ := (A3.out.atBox 4 rfl).c2
  have f2 := (A3.out.atBox 2 rfl).frozen 1
  have g0 := (A3.out.atBox 3 rfl).frozen 0
  have g1' := (A3.out.atBox 3 rfl).frozen 1
  have A4 : Hid (Hand w _ [THls _ hs, TMat _ m, TBox (w.heap.size + 1 + 1) #[.slice g1 m.length k1, .slice (some ⟨g3, 0, none⟩) hs.length hs.length] 29, TBox (w.heap.size + 1) nilR 29, TBox w.heap.size #[.slice al m.length cl, .slice ar hs.length cr] 25]) := A3.out.setBoxT 2 rfl 1 (.slice (some ⟨g3, 0, none⟩) hs.length hs.length)
  have A5 := hide (A4.out.store2 3 rfl (.slice g1 m.length k1) (.slice (some ⟨g3, 0, none⟩) hs.length hs.length))
  clear A3 A4
  go_wp2
  exact bodyPost_ret (res_rm rfl _ _ (w.heap.size + 1) _ _ (0, 0) rfl (A5.out.atBox 3 rfl)) rfl ⟨_, _, rfl, A5.out.rooms, A5.out.below⟩

set_option maxRecDepth 100000 in
set_option maxHeartbeats 800000 in
theorem szRooms_calls (f h : Value) (m : List (List Int)) (hs : List Hl) (w : World) (hf : RdM w f m) (hh : RdH w h hs) :
    Calls Try.prog 11 #[.agg #[f, h], .int .i64 1048576] w fun e w' => (∃ x : Int, e = .returned (.int .i64 x) ∧ (x < 0 ∨ (0 ≤ x ∧ m.length + tot m ≤ 1048576 ∧ hs.length ≤ 1048576))) ∧ Below w.heap.size w w' := by
  have b0 := below_box w (.cells #[f, h] 25)
  have R1 := hide (hf.below b0)
  have R2 := hide (hh.below b0)
  have B0 := hide b0
  obtain ⟨al, cl, rfl, _, _⟩ := hf.sl
  obtain ⟨ar, cr, rfl, _, _⟩ := hh.sl
  clear b0 hf hh
  by_cases hx : (m.length : Int) + tot m ≤ 1048576
  case neg =>
    have C := szIntSS_calls _ m 1048576 _ R1.out (by omega) (by omega)
    rw [if_neg hx] at C
    have CC := hide C
    clear C
    go_enter Try.func11, Try.ntmps11
    go_wp2_with fail
    refine CC.out.mono ?_
    rintro e w1 ⟨rfl, rfl⟩
    go_wp2
    go_ret
    exact ⟨⟨-1, rfl, .inl (by decide)⟩, B0.out⟩
  have C := szIntSS_calls _ m 1048576 _ R1.out (by omega) (by omega)
  rw [if_pos hx] at C
  obtain ⟨x, hxe⟩ : ∃ x, x = (1048576 : Int) - (m.length + tot m) := ⟨_, rfl⟩
  rw [← hxe] at C
  have x0 : 0 ≤ x := by omega
  have x0' : ¬ x < 0 := by omega
  have x1 : x ≤ 1048576 := by omega
  have CC := hide C
  have HX : Hid (m.length + tot m ≤ 1048576) := by show _ ≤ _; omega
  clear C hxe hx
  go_enter Try.func11, Try.ntmps11
  go_wp2_with fail
  refine CC.out.mono ?_
  rintro e w1 ⟨rfl, rfl⟩
  go_wp2_with fail
  refine (szHeldS_calls _ hs _ _ R2.out x0 x1).mono ?_
  rintro e w1 ⟨⟨y, rfl, hy⟩, rfl⟩
  rcases hy with hy | ⟨hy0, hy1, hy2⟩
  · go_wp2
    go_ret
    exact ⟨⟨-1, rfl, .inl (by decide)⟩, B0.out⟩
  have hy' : ¬ y < 0 := by omega
  go_wp2
  go_ret
  exact ⟨⟨_, rfl, .inr ⟨hy0, HX.out, hy2⟩⟩, B0.out⟩

set_option maxRecDepth 100000 in
set_option maxHeartbeats 800000 in
theorem eqRooms_same (f h f' h' : Value) (m : List (List Int)) (hs : List Hl) (w : World) (hf : RdM w f m) (hh : RdH w h hs) (hf' : RdM w f' m) (hh' : RdH w h' hs) :
    Calls Try.prog 15 #[.agg #[f, h], .agg #[f', h']] w fun e w' => e = .returned (.bool true) ∧ Below w.heap.size w w' := by
  obtain ⟨al, cl, rfl, _, _⟩ := hf.sl
  obtain ⟨ar, cr, rfl, _, _⟩ := hh.sl
  obtain ⟨al', cl', rfl, _, _⟩ := hf'.sl
  obtain ⟨ar', cr', rfl, _, _⟩ := hh'.sl
  have A0 := hide (Hand.twoN w #[.slice al m.length cl, .slice ar hs.length cr] #[.slice al' m.length cl', .slice ar' hs.length cr'] 29 29)
  have R1 := hide hf
  have R2 := hide hh
  have R3 := hide hf'
  have R4 := hide hh'
  clear hf hh hf' hh'
  go_enter Try.func15, Try.ntmps15
  go_wp2_with fail
  refine (eqIntSS_same _ _ m _ (R1.out.below A0.out.below) (R3.out.below A0.out.below)).mono ?_
  rintro e w1 ⟨rfl, b1⟩
  have A1 := hide (A0.out.step b1)
  obtain ⟨c0, c1⟩ := (A1.out.atBox 0 rfl).c2
  obtain ⟨d0, d1⟩ := (A1.out.atBox 1 rfl).c2
  clear b1 A0
  go_wp2_with fail
  clear c0 c1 d0 d1
  refine (eqHeldS_same _ _ hs _ (R2.out.below A1.out.below) (R4.out.below A1.out.below)).mono ?_
  rintro e w2 ⟨rfl, b2⟩
  have A2 := hide (A1.out.step b2)
  obtain ⟨c0, c1⟩ := (A2.out.atBox 0 rfl).c2
  obtain ⟨d0, d1⟩ := (A2.out.atBox 1 rfl).c2
  clear b2 A1
  go_wp2
  go_ret
  exact ⟨rfl, A2.out.below⟩

/-- What the marks end with. -/
def enR (m : List (List Int)) (hs : List Hl) : Int := 1 + (tot m : Int) + 2 * (hs.length : Int)
theorem RomV.setF {w w' : World} {lo hi : Nat} {f h : Value} {m m' : List (List Int)} {hs : List Hl} (d : RomV w lo hi f h m hs) (hm : Mat w' lo hi f m') (hh : OwnH w' lo h hs) : RomV w' lo hi f h m' hs := ⟨hm, hh, d.th⟩
/-- Blocks of a type stay. -/
def KeepR (e : TypeId) (w w' : World) : Prop := ∀ (g : Nat) (cur : Array Value) (fr : Nat × Nat), w.heap[g]? = some (Obj.cells cur e fr) → w'.heap[g]? = some (Obj.cells cur e fr)
theorem KeepR.refl (e : TypeId) (w : World) : KeepR e w w := fun _ _ _ h => h
theorem KeepR.trans {e : TypeId} {a b c : World} (h : KeepR e a b) (k : KeepR e b c) : KeepR e a c := fun g cur fr hg => k g cur fr (h g cur fr hg)
theorem KeepR.row {e e' : TypeId} {w w' : World} {lo n s : Nat} {v : Value} {xs : List Value} (h : w.ownsRow lo e' s v n xs) (hg : w.grownBy w' v.ownBlock) (hne : e' ≠ e) : KeepR e w w' := fun g cur fr hgg => by
  rw [hg.block g (Array.getElem?_eq_some_iff.1 hgg).1 (fun e0 => ?_)]
  · exact hgg
  · rcases h.2 with ⟨rfl, _⟩ | ⟨g', cap', cur', rfl, _, hg', _⟩
    · simp [Value.ownBlock] at e0
    · simp only [Value.ownBlock, Option.some.injEq] at e0
      subst e0
      rw [hgg] at hg'
      simp only [Option.some.injEq, Obj.cells.injEq] at hg'
      exact hne hg'.2.1.symm
theorem KeepR.own {e : TypeId} {w w' : World} {lo n s : Nat} {v : Value} {xs : List Value} (h : w.ownsRow lo e s v n xs) (hk : KeepR e w w') : w'.ownsRow lo e s v n xs := by
  refine ⟨h.1, ?_⟩
  rcases h.2 with hn | ⟨g, cap, cur, rfl, hb, hg, rest⟩
  · exact .inl hn
  · exact .inr ⟨g, cap, cur, rfl, hb, hk g _ _ hg, rest⟩

set_option maxRecDepth 100000 in
set_option maxHeartbeats 800000 in
theorem markIntSS_keepsR (v : Value) (m : List (List Int)) (k : Int) (lo hi : Nat) (w : World) (h : Mat w lo hi v m) (hk0 : 0 ≤ k) (hk : k ≤ 1073741824) (hn : m.length + tot m ≤ 1048576) :
    Calls Try.prog 63 #[v, .int .i64 k] w fun e w' => e = .returned (.int .i64 (k + tot m)) ∧ Mat w' lo hi v (marksM k m) ∧ Chg lo hi w w' ∧ KeepR 136 w w' := by
  obtain ⟨vs, h⟩ := h
  by_cases h0 : m.length = 0
  · have e : m = [] := List.eq_nil_of_length_eq_zero h0
    subst e
    rcases h.head.2 with ⟨rfl, _⟩ | ⟨g, cap, cur, rfl, _⟩
    · go_enter Try.func63, Try.ntmps63
      go_wp2
      refine wp_loop_rounds 1 ?_
      rw [rounds_succ]
      go_wp2
      go_ret
      exact ⟨by simp [tot], ⟨vs, h⟩, Chg.refl _ _ _, KeepR.refl _ _⟩
    · go_enter Try.func63, Try.ntmps63
      go_wp2
      refine wp_loop_rounds 1 ?_
      rw [rounds_succ]
      go_wp2
      go_ret
      exact ⟨by simp [tot], ⟨vs, h⟩, Chg.refl _ _ _, KeepR.refl _ _⟩
  obtain ⟨g, cap, rfl, hg1, hg2, hg3, hg4⟩ := h.open (by omega)
  have hn1 : m.length ≤ 1048576 := by omega
  have Hn := hide hn
  have H := hide h
  clear hn h
  go_enter Try.func63, Try.ntmps63
  go_wp2
  go_loopw [1, 5] (fun vk vi wr => ∃ (i t : Nat), i ≤ m.length ∧ vi = .int .i64 i ∧ t = tot (m.take i) ∧ t ≤ 1048576 ∧ vk = .int .i64 (k + t) ∧ MatV wr lo hi (.slice (some ⟨g, 0, none⟩) m.length cap) vs (mkToM k m i) ∧ Chg lo hi w wr ∧ KeepR 136 w wr) (fun _ vi _ => m.length - (intOf vi).toNat)
  case atStart => exact ⟨0, 0, Nat.zero_le _, rfl, by simp [tot], by omega, by go_num, by simpa [mkToM] using H.out, Chg.refl _ _ _, KeepR.refl _ _⟩
  case round =>
    obtain ⟨i, t, hi', rfl, ht, ht2, rfl, hM, hC, hK⟩ := hrel
    have KE := hide hK
    clear hK
    by_cases hlt : i < m.length
    · have hil : i < (mkToM k m i).length := by rw [mkToM_length k m i hi']; exact hlt
      have hc1 := hM.cell i hil
      have hro := hM.row i hil
      rw [mkToM_get k m i] at hro
      obtain ⟨u, hu⟩ : ∃ u, u = vs.getD i nilRow := ⟨_, rfl⟩
      rw [← hu] at hc1 hro
      obtain ⟨r, hr⟩ : ∃ r, r = (m.getD i []).length := ⟨_, rfl⟩
      have hs := tot_take_succ m i hlt
      have hs2 := tot_row_le m i hlt
      rw [← hr, ← ht] at hs hs2
      have U := hide hu
      have M := hide hM
      have C := hide hC
      have Ro := hide hro
      have Ht := hide ht
      have Hr := hide hr
      have Hs := hide hs
      have hr2 : r ≤ 1048576 := by have := Hn.out; omega
      have hr3 : t + r ≤ 1048576 := by have := Hn.out; omega
      clear hu hM hC hro ht hr hs hs2
      have hlt' : (i : Int) < (m.length : Int) := by omega
      go_wp2_with fail
      refine (markIntS_calls u (m.getD i []) (k + t) lo _ Ro.out (by omega) (by omega) (by rw [← Hr.out]; omega)).mono ?_
      rw [← Hr.out]
      rintro e w1 ⟨rfl, ho, hg⟩
      have O := hide ho
      have G := hide hg
      clear ho hg
      go_wp2
      go_roundw
      case rel =>
        have ho := O.out
        have hg := G.out
        have hu := U.out
        rw [hu] at ho hg
        refine ⟨i + 1, t + r, by omega, by go_num, Hs.out.symm, hr3, by go_num, ?_, C.out.trans (M.out.writeChg i hil hg), KE.out.trans (KeepR.row (M.out.row i hil) hg (by decide))⟩
        have := M.out.write i hil (mkM k m i) (by unfold mkM; rw [← Hr.out, ← Ht.out]; exact ho) hg
        rwa [mkToM_step k m i hlt] at this
      case measure => simp [intOf]; omega
    · obtain rfl : i = m.length := by omega
      have h1 := ht
      rw [List.take_length] at h1
      rw [mkToM_end] at hM
      have M := hide hM
      have C := hide hC
      have H1 := hide h1
      clear hM hC ht h1
      go_wp2
      go_ret
      exact ⟨by rw [H1.out]; rfl, ⟨_, M.out⟩, C.out, KE.out⟩

set_option maxRecDepth 100000 in
set_option maxHeartbeats 800000 in
theorem markRooms_calls (f h : Value) (m : List (List Int)) (hs : List Hl) (lo hi : Nat) (w : World) (d : RomV w lo hi f h m hs) (hh : hi ≤ w.heap.size) (hzf : m.length + tot m ≤ 1048576) (hzh : hs.length ≤ 1048576) :
    Calls Try.prog 16 #[.agg #[f, h], .int .i64 1] w fun e w' => e = .returned (.int .i64 (enR m hs)) ∧ RomV w' lo hi f h (marksM 1 m) (mkH (1 + (tot m : Int)) hs.length) ∧ Chg lo hi w w' := by
  obtain ⟨af, cf, ah, ch, rfl, rfl⟩ := d.sl
  have b0 := below_box w (.cells #[.slice af m.length cf, .slice ah hs.length ch] 29)
  have D0 := hide (d.below b0)
  have C0 : Hid (Chg lo hi w (w.alloc (.cells #[.slice af m.length cf, .slice ah hs.length ch] 29))) := Chg.ofBelow b0
  have X0 := hide (BoxAt.new w #[.slice af m.length cf, .slice ah hs.length ch] 29)
  clear b0 d
  obtain ⟨T, hT⟩ : ∃ T, T = tot m := ⟨_, rfl⟩
  have HT := hide hT
  have hT2 : T ≤ 1048576 := by omega
  go_enter Try.func16, Try.ntmps16
  go_wp2_with fail
  refine (markIntSS_keepsR _ m 1 lo hi _ D0.out.free (by omega) (by omega) hzf).mono ?_
  rw [← hT]
  rintro e w1 ⟨rfl, o1, g1, k1⟩
  have D1 : Hid (RomV w1 lo hi _ _ (marksM 1 m) hs) := D0.out.setF o1 (KeepR.own D0.out.held k1)
  have X1 := X0.out.chg g1 (.inr hh)
  have C1 := hide (C0.out.trans g1)
  obtain ⟨c0, c1⟩ := X1.c2
  clear o1 g1 k1 D0 C0 X0 X1 hT hzf
  go_wp2_with fail
  refine (markHeldS_calls _ (1 + (T : Int)) hs lo _ D1.out.held hzh (by omega) (by omega)).mono ?_
  rintro e w2 ⟨rfl, o2, g2⟩
  have D2 := hide (D1.out.setH o2 g2)
  have C2 := hide (C1.out.trans (D1.out.chgH g2))
  clear o2 g2 D1 C1
  go_wp2
  go_ret
  refine ⟨?_, by rw [← HT.out]; exact D2.out, C2.out⟩
  unfold enR
  rw [← HT.out]
  first | rfl | done

set_option maxRecDepth 100000 in
set_option maxHeartbeats 800000 in
theorem heldRooms_calls (f h : Value) (m : List (List Int)) (hs : List Hl) (w : World) (hf : RdM w f (marksM 1 m)) (hh : RdH w h (mkH (1 + (tot m : Int)) hs.length)) (hzf : m.length + tot m ≤ 1048576) (hzh : hs.length ≤ 1048576) :
    Calls Try.prog 17 #[.agg #[f, h], .int .i64 1] w fun e w' => e = .returned (.int .i64 (enR m hs)) ∧ Below w.heap.size w w' := by
  have b0 := below_box w (.cells #[f, h] 29)
  have R1 := hide (hf.below b0)
  have R2 := hide (hh.below b0)
  have B0 := hide b0
  obtain ⟨al, cl, rfl, _, _⟩ := hf.sl
  obtain ⟨ar, cr, rfl, _, _⟩ := hh.sl
  rw [marksM_length] at *
  rw [mkH_len] at *
  clear b0 hf hh
  obtain ⟨T, hT⟩ : ∃ T, T = tot m := ⟨_, rfl⟩
  rw [← hT] at R2
  have HT := hide hT
  have hT2 : T ≤ 1048576 := by omega
  have e1 : ¬ (1 + (T : Int) < 0) := by omega
  have e2 : ¬ (1 + (T : Int) + 2 * (hs.length : Int) < 0) := by omega
  have HZ := hide hzf
  clear hzf
  go_enter Try.func17, Try.ntmps17
  go_wp2_with fail
  refine (heldIntSS_calls _ m 1 _ R1.out (by omega) (by omega) HZ.out).mono ?_
  rw [← hT]
  clear hT
  rintro e w1 ⟨rfl, rfl⟩
  go_wp2_with fail
  refine (heldHeldS_calls _ (1 + (T : Int)) hs.length _ R2.out hzh (by omega) (by omega)).mono ?_
  rintro e w1 ⟨rfl, rfl⟩
  go_wp2
  go_ret
  refine ⟨?_, B0.out⟩
  unfold enR
  rw [← HT.out]
  first | rfl | done
end Go.Proofs.Ytjffjoednmlkiaa

namespace Go.Proofs.Ytjffjoednmlkiaa.Frame
open Go.ChangeShapes Go.WideShapes Go.ChangeAt Go.RowKit

theorem rd_row {W : World} {a : Option Addr} {len cap : Nat} {zs : List Int} (hz : True → zs.length = cap) (hl : len ≤ cap) (hm : cap ≤ maxLen) (hn : a = none → cap = 0)
    (hc : ∀ a', a = some a' → ∀ i, i < cap → W.cell? (a'.add i) = some (.int .i64 (zs.getD i 0))) : Rd W (.slice a len cap) (zs.take len) := by
  have hz := hz trivial
  have el : (zs.take len).length = len := by rw [List.length_take]; omega
  refine ⟨a, cap, by rw [el], by rw [el]; exact hl, ⟨hm, hn⟩, ?_⟩
  by_cases h0 : len = 0
  · left; subst h0; simp
  · right
    cases a with
    | none => have := hn rfl; omega
    | some x =>
      obtain ⟨b, off, sp⟩ := x
      have hc := hc _ rfl
      have h00 := hc 0 (by omega)
      obtain rfl : sp = none := by simpa [Addr.add] using World.cell?_spot h00
      refine ⟨b, off, rfl, ?_, ?_⟩
      · have : W.cell? ⟨b, off, none⟩ = some (.int .i64 (zs.getD 0 0)) := by simpa [Addr.add] using h00
        unfold World.cell? at this
        cases hh : W.heap[b]? with
        | none => simp [hh] at this
        | some o => exact (Array.getElem?_eq_some_iff.1 hh).1
      · intro i hi
        rw [el] at hi
        have := hc i (by omega)
        have hadd : (⟨b, off, none⟩ : Addr).add i = ⟨b, off + i, none⟩ := by unfold Addr.add; split <;> simp_all
        rw [hadd] at this
        rw [this, List.getD_eq_getElem?_getD, List.getD_eq_getElem?_getD, List.getElem?_take, if_pos hi]

/-- A slice of integers that came in reads as some list; a slice of slices as some rows. -/
theorem rd_of {H : Type} {enc : TypeId × Value → H} {W : World} {fu : Nat} {held : Bool} {cs : List Value} {x : DataW H × List MemPlace} {a : Option Addr} {len cap : Nat}
    (h : DataW.trod enc Try.prog W 0 (fun _ => true) held fu 36 cs = some x) (hc : cs = [Value.slice a len cap]) : ∃ xs, Rd W (.slice a len cap) xs := by
  rcases open_ints Try.underlying36 Try.underlying3 (by kernel_rfl) h with ⟨hcs, _⟩ | ⟨⟨b, off, sp⟩, l, c, zs, hcs, _, hl, hm, hz, _, hcell, _⟩
  · rw [hc] at hcs
    simp at hcs
    obtain ⟨rfl, rfl, rfl⟩ := hcs
    exact ⟨[], none, 0, rfl, Nat.le_refl _, ⟨Nat.zero_le _, fun _ => rfl⟩, .inl rfl⟩
  · rw [hc] at hcs
    simp at hcs
    obtain ⟨rfl, rfl, rfl⟩ := hcs
    simp only [if_true] at hz
    exact ⟨_, rd_row (fun _ => hz) hl hm (fun h => by cases h) (fun a' e i hi => by cases e; exact hcell i (by omega))⟩
theorem rdM_of {H : Type} {enc : TypeId × Value → H} {W : World} {fu : Nat} {held : Bool} {cs : List Value} {x : DataW H × List MemPlace} {a : Option Addr} {len cap : Nat}
    (h : DataW.trod enc Try.prog W 0 (fun _ => true) held fu 22 cs = some x) (hc : cs = [Value.slice a len cap]) : ∃ m, RdM W (.slice a len cap) m := by
  rcases Go.Deep.open_int_rows Try.underlying22 Try.underlying36 Try.underlying3 (by kernel_rfl) (by kernel_rfl) h with ⟨hcs, _⟩ | ⟨⟨b, off, sp⟩, l, c, A, L, C, Z, hcs, _, hl, hm, _, hr⟩
  · rw [hc] at hcs
    simp at hcs
    obtain ⟨rfl, rfl, rfl⟩ := hcs
    exact ⟨[], none, 0, rfl, Nat.le_refl _, ⟨Nat.zero_le _, fun _ => rfl⟩, .inl rfl⟩
  · rw [hc] at hcs
    simp at hcs
    obtain ⟨rfl, rfl, rfl⟩ := hcs
    refine ⟨(List.range len).map fun r => (Z r).take (L r), some ⟨b, off, sp⟩, cap, by simp, by simpa using hl, ⟨hm, fun h => by cases h⟩, ?_⟩
    by_cases h0 : len = 0
    · subst h0; left; rfl
    · right
      have h00 := (hr 0 (by omega)).1
      obtain rfl : sp = none := by simpa [Addr.add] using World.cell?_spot h00
      refine ⟨b, off, rfl, ?_, ?_⟩
      · have : W.cell? ⟨b, off, none⟩ = some (.slice (A 0) (L 0) (C 0)) := by simpa [Addr.add] using h00
        unfold World.cell? at this
        cases hh : W.heap[b]? with
        | none => simp [hh] at this
        | some o => exact (Array.getElem?_eq_some_iff.1 hh).1
      · intro i hi
        rw [List.length_map, List.length_range] at hi
        obtain ⟨e1, e2, e3, e4, _, e6, e7⟩ := hr i (by omega)
        have hadd : (⟨b, off, none⟩ : Addr).add i = ⟨b, off + i, none⟩ := by unfold Addr.add; split <;> simp_all
        rw [hadd] at e1
        refine ⟨_, e1, ?_⟩
        have eg : ((List.range len).map fun r => (Z r).take (L r)).getD i [] = (Z i).take (L i) := by simp [hi]
        rw [eg]
        exact rd_row (fun _ => e4) e2 e3 e6 (fun a' h j hj => (e7 a' h).2 j hj)
end Go.Proofs.Ytjffjoednmlkiaa.Frame

namespace Go.Proofs.Ytjffjoednmlkiaa.Frame
open Go.ChangeShapes Go.WideShapes Go.ChangeAt Go.RowKit
set_option linter.unusedVariables false
section
variable {H : Type} {enc : TypeId × Value → H} {W : World}
theorem rdM_ofL {n : Nat} {v : Value} {y : DataW H × List MemPlace} (h : DataW.trod enc Try.prog W 0 (fun _ => true) true n 22 [v] = some y) : ∃ m, RdM W v m := by
  obtain ⟨a, l, c, rfl⟩ : ∃ a l c, v = .slice a l c := by
    rcases Go.Deep.open_int_rows Try.underlying22 Try.underlying36 Try.underlying3 (by kernel_rfl) (by kernel_rfl) h with ⟨hcs, _⟩ | ⟨x, l, c, A, L, C, Z, hcs, _⟩
    · simp only [List.cons.injEq, and_true] at hcs
      exact ⟨_, _, _, hcs⟩
    · simp only [List.cons.injEq, and_true] at hcs
      exact ⟨_, _, _, hcs⟩
  exact rdM_of h rfl
set_option maxRecDepth 100000 in
theorem hl_of {n : Nat} {cs : List Value} {y : DataW H × List MemPlace} (h : DataW.trod enc Try.prog W 0 (fun _ => true) true n 139 cs = some y) :
    ∃ (k z : Int), cs = [.int .i64 k, .int .i64 z] := by
  obtain ⟨y0, y1, m, _, hl, g0, g1⟩ := Go.ChangeShapes.trod_struct2 Try.underlying139 h
  have hl2 : cs.length = 2 := hl.trans (by kernel_rfl)
  obtain ⟨c0, c1, rfl⟩ : ∃ c0 c1, cs = [c0, c1] := by
    match cs, hl2 with
    | [a, b], _ => exact ⟨a, b, rfl⟩
  have k1 : Try.prog.cellsOf 3 = 1 := by kernel_rfl
  simp only [k1, List.drop_zero, List.drop_succ_cons, List.take_succ_cons, List.take_zero] at g0 g1
  obtain ⟨k, e1, _⟩ := DataW.trod_int Try.underlying3 g0
  obtain ⟨z, e2, _⟩ := DataW.trod_int Try.underlying3 g1
  obtain rfl : c0 = .int .i64 k := by simpa using e1
  obtain rfl : c1 = .int .i64 z := by simpa using e2
  exact ⟨k, z, rfl⟩
set_option maxRecDepth 100000 in
theorem rdH_of {n : Nat} {v : Value} {y : DataW H × List MemPlace} (h : DataW.trod enc Try.prog W 0 (fun _ => true) true n 23 [v] = some y) : ∃ xs, RdH W v xs := by
  rcases Go.Deep.open_slice Try.underlying23 h with ⟨hcs, _⟩ | ⟨⟨b, off, sp⟩, len, cap, m, n2, D, Pl, hcs, _, hl, hm, hmm, _, hr⟩
  · simp only [List.cons.injEq, and_true] at hcs
    subst hcs
    exact ⟨[], rdH_nil W⟩
  · simp only [List.cons.injEq, and_true] at hcs
    subst hcs
    have k4 : Try.prog.cellsOf 139 = 2 := by kernel_rfl
    rw [k4] at hr
    have hmc : m = cap := by rw [hmm]; rfl
    have each : ∀ i, ∃ s : Hl, i < len → W.cells? 0 ((⟨b, off, sp⟩ : Addr).add (i * 2)) 2 = some [.int .i64 s.1, .int .i64 s.2] := by
      intro i
      by_cases hi : i < len
      · obtain ⟨cs, h1, h2⟩ := hr i (by omega)
        obtain ⟨k, z, rfl⟩ := hl_of h2
        exact ⟨(k, z), fun _ => h1⟩
      · exact ⟨hl0, fun h => absurd h hi⟩
    obtain ⟨f, hf⟩ := Classical.axiomOfChoice each
    have eg : ∀ i, i < len → ((List.range len).map f).getD i hl0 = f i := fun i hi => by simp [hi]
    refine ⟨(List.range len).map f, some ⟨b, off, sp⟩, cap, by simp, by simpa using hl, ⟨hm, fun h => by cases h⟩, ?_⟩
    by_cases h0 : len = 0
    · subst h0; left; rfl
    · right
      have hc0 := hf 0 (by omega)
      obtain ⟨_, _, hc1⟩ := World.cells?_some hc0
      have h00 := hc1 0 (by omega)
      simp only [Nat.zero_mul, List.getElem?_cons_zero] at h00
      obtain rfl : sp = none := by
        have := World.cell?_spot h00
        simpa [Addr.add] using this
      have hadd : ∀ o i, (⟨b, o, none⟩ : Addr).add i = ⟨b, o + i, none⟩ := fun o i => by unfold Addr.add; split <;> simp_all
      refine ⟨b, off, rfl, ?_, ?_⟩
      · rw [hadd, hadd] at h00
        exact cell_lt h00
      · intro i hi
        rw [List.length_map, List.length_range] at hi
        rw [eg i hi]
        have hc := hf i hi
        obtain ⟨_, _, hc⟩ := World.cells?_some hc
        rw [hadd] at hc
        have e0 := hc 0 (by omega)
        have e1 := hc 1 (by omega)
        rw [hadd] at e0 e1
        exact ⟨by simpa using e0, by simpa using e1⟩
set_option maxRecDepth 100000 in
theorem rom_of {r : Reach} {b0 : Nat} {v : Value} {d : DataW H} {p : List MemPlace} (hv : Value.okWide Try.prog W r b0 25 v) (h : DataW.Trod enc Try.prog W 0 (fun _ => true) true 25 v d p) :
    ∃ (vf vh : Value) (m : List (List Int)) (hs : List Hl), v = .agg #[vf, vh] ∧ RdM W vf m ∧ RdH W vh hs := by
  obtain ⟨c0, c1, y0, y1, n, rfl, rfl, rfl, g0, g1⟩ := Go.Joins.open_agg2 Try.underlying25 (by kernel_rfl) (by kernel_rfl) hv h
  obtain ⟨m, hm⟩ := rdM_ofL g0
  obtain ⟨hs, hh⟩ := rdH_of g1
  exact ⟨c0, c1, m, hs, rfl, hm, hh⟩
end
end Go.Proofs.Ytjffjoednmlkiaa.Frame

/-
  A room is given back, of the model. Each contract says what it asks. How many rooms each place is in, told of the map. No condition. Good rooms, told of the maps; a taking leaves them good. No condition. Good rooms are good behind a taking. No condition. Good rooms are good behind a giving back. No condition.
-/
import Derived.Test.YtjffjoednmlkiaaPlayRoomsB25
import Derived.Test.YtjffjoednmlkiaaPlayRoomsB24
namespace Go.Proofs.Ytjffjoednmlkiaa
open Go.RowKit Go.Maps Go.MapKept Go.ChangeMaps
set_option linter.unusedVariables false
set_option linter.unusedSimpArgs false

set_option maxRecDepth 100000 in
set_option maxHeartbeats 3200000 in
theorem l14GiveNo_calls (f h : Value) (m : List (List Int)) (hs : List Hl) (s : Int) (w : World) (hf : RdM w f m) (hh : RdH w h hs) (hn : ∀ o, (s, o) ∉ hs) :
    Calls Try.prog 53 #[.agg #[f, h], .int .i64 s] w fun e w' => e = .returned (.tuple #[.agg #[f, h], .bool false]) ∧ Below w.heap.size w w' := by
  obtain ⟨af, cf, rfl, p1, p2⟩ := hf.sl
  obtain ⟨ah, ch, rfl, p3, p4⟩ := hh.sl
  have A0 := hide (Hand.twoN w #[.slice af m.length cf, .slice ah hs.length ch] nilR 29 29)
  have RH := hide (hh.below A0.out.below)
  have HN := hide hn
  have hm9 : hs.length ≤ 9223372036854775807 := by have := p3; have p5 := p4; unfold maxLen at p5; omega
  clear hf hh hn p1 p2 p3 p4
  obtain ⟨y0, y1⟩ := (A0.out.atBox 1 rfl).c2
  obtain ⟨e0, e1⟩ := (A0.out.atBox 0 rfl).c2
  have q0 := (A0.out.atBox 0 rfl).frozen 0
  have q1 := (A0.out.atBox 0 rfl).frozen 1
  have A1 := hide (Hand.twoN w #[.slice af m.length cf, .slice ah hs.length ch] #[.slice af m.length cf, .slice ah hs.length ch] 29 29)
  go_enter Try.func53, Try.ntmps53
  go_wp2_with fail
  go_loop [6] (fun v => ∃ t : Nat, t ≤ hs.length ∧ v = .int .i64 (t : Int)) (fun v => hs.length - (intOf v).toNat)
  case atStart => exact ⟨0, Nat.zero_le _, rfl⟩
  case round =>
    obtain ⟨t, ht, rfl⟩ := hrel
    by_cases hlt : t < hs.length
    · have hlt' : (t : Int) < (hs.length : Int) := by omega
      obtain ⟨b, off, x, z, rfl, hx, _, d0, d1⟩ := RH.out.at t hlt
      have hxa : x ≠ s := fun e => HN.out z (by rw [← e, ← hx]; exact getD_memR hs t hl0 hlt)
      have hxd : (x != s) = true := by simpa using hxa
      clear hx d1 hxa
      go_wp2
      go_round
      case rel => exact ⟨t + 1, by omega, by go_num⟩
      case measure => simp [intOf]; omega
    · obtain rfl : t = hs.length := by omega
      go_wp2
      exact bodyPost_ret (res_rm2 rfl _ _ (w.heap.size + 1) _ _ (0, 0) rfl (A1.out.atBox 0 rfl)) rfl ⟨rfl, A1.out.below⟩

set_option maxRecDepth 100000 in
set_option maxHeartbeats 3200000 in
theorem sGiveRoom_calls (f h : Value) (m : List (List Int)) (hs : List Hl) (s : Int) (X : List (List Int)) (Y : List Hl) (ok : Bool) (w : World) (hf : RdM w f m) (hh : RdH w h hs) (hz : m.length + tot m ≤ 1048576) (hz2 : hs.length ≤ 1048576) (hX : GiveP m hs s X Y ok) :
    Calls Try.prog 12 #[.agg #[f, h], .int .i64 s] w fun e w' => ∃ f' h', e = .returned (.tuple #[.agg #[f', h'], .bool ok]) ∧ RomV w' w.heap.size w'.heap.size f' h' X Y ∧ Below w.heap.size w w' := by
  have RF := hide hf
  have RH := hide hh
  obtain ⟨good, hgood⟩ := bol_exR (RoomsOk m hs)
  have GR := hide (fun V p q h1 h2 => sGoodRooms_calls p q m hs good V h1 h2 hz hz2 hgood)
  have A0 := hide (Hand.twoN w #[f, h] nilR 29 29)
  have HG := hide hgood
  have HX := hide hX
  have HZ := hide hz
  obtain ⟨x0, x1⟩ := (A0.out.atBox 1 rfl).c2
  clear hf hh hz hgood hX
  go_enter Try.func12, Try.ntmps12
  go_wp2_with fail
  refine (GR.out _ _ _ (RF.out.below A0.out.below) (RH.out.below A0.out.below)).mono ?_
  rintro e w1 ⟨rfl, b1⟩
  have A1 := hide (A0.out.step b1)
  clear b1 A0 GR x0 x1
  obtain ⟨e0, e1⟩ := (A1.out.atBox 0 rfl).c2
  have q0 := (A1.out.atBox 0 rfl).frozen 0
  have q1 := (A1.out.atBox 0 rfl).frozen 1
  obtain ⟨x0, x1⟩ := (A1.out.atBox 1 rfl).c2
  have N2 := hide (A1.out.store2 0 rfl (.slice none 0 0) (.slice none 0 0))
  cases good with
  | false =>
    obtain ⟨rfl, rfl, rfl⟩ : X = [] ∧ Y = [] ∧ ok = false := by
      have hn : ¬ RoomsOk m hs := fun hh => by have := HG.out.2 hh; cases this
      rcases HX.out with ⟨_, ee⟩ | ⟨⟨h2, _⟩, _⟩ | ⟨_, _, ⟨h2, _⟩, _⟩
      · exact ee
      · exact absurd h2 hn
      · exact absurd h2 hn
    clear HX HG
    go_wp2
    exact bodyPost_ret (res_rm2 rfl _ _ (w.heap.size + 1) _ _ (0, 0) rfl (N2.out.atBox 0 rfl)) rfl ⟨_, _, rfl, RomV.nil _ _ _, N2.out.below⟩
  | true =>
  have OK := hide (HG.out.1 rfl)
  clear HG N2 e0 e1 q0 q1
  go_wp2_with fail
  refine (l14Own_calls f h m hs _ (RF.out.below A1.out.below) (RH.out.below A1.out.below) HZ.out hz2).mono ?_
  rintro e w3 ⟨f3, h3, rfl, d3, b3⟩
  obtain ⟨af3, cf3, ah3, ch3, rfl, rfl⟩ := d3.sl
  have X3 := hide ((A1.out.atBox 0 rfl).below b3)
  have B3 := hide (A1.out.below.trans (b3.mono A1.out.below.size))
  have XL := hide (A1.out.atBox 0 rfl).lt
  have D3 := hide d3
  clear d3 b3 A1 x0 x1
  by_cases hfull : ∃ o, (s, o) ∈ hs
  case neg =>
    have NO := hide (fun o (h : (s, o) ∈ hs) => hfull ⟨o, h⟩)
    obtain ⟨rfl, rfl, rfl⟩ : X = [] ∧ Y = [] ∧ ok = false := by
      rcases HX.out with ⟨_, ee⟩ | ⟨_, ee⟩ | ⟨a, o, ⟨_, _, hin⟩, _⟩
      · exact ee
      · exact ee
      · exact absurd ⟨_, hin⟩ hfull
    clear HX hfull
    go_wp2_with fail
    refine (l14GiveNo_calls _ _ m hs s _ D3.out.rf D3.out.rh NO.out).mono ?_
    rintro e w4 ⟨rfl, b4⟩
    have b5 := below_box w4 (.cells #[.slice af3 m.length cf3, .slice ah3 hs.length ch3] 29)
    have X5 := (X3.out.below b4).below b5
    have B5 := (B3.out.trans (b4.mono B3.out.size)).trans (b5.mono (Nat.le_trans B3.out.size b4.size))
    have e0 := X5.c2.1
    have e1 := X5.c2.2
    have q0 := X5.frozen 0
    have q1 := X5.frozen 1
    have g8 := grown_tr (grown_setCell (w4.alloc (.cells #[.slice af3 m.length cf3, .slice ah3 hs.length ch3] 29)) (w.heap.size + 1) 0 (.slice none 0 0)) (grown_setCell _ (w.heap.size + 1) 1 (.slice none 0 0))
    have Z8 := hide ((X5.set 0 (.slice none 0 0)).set 1 (.slice none 0 0))
    have G8 := hide (B5.grown g8 B5.size (fun j hj => by cases hj; omega))
    clear b4 b5 X5 B5 g8
    go_wp2
    exact bodyPost_ret (res_rm2 rfl _ _ (w.heap.size + 1) _ _ (0, 0) rfl Z8.out) rfl ⟨_, _, rfl, RomV.nil _ _ _, G8.out⟩
  obtain ⟨an, on, hin, hsa, hXe, hYe, rfl⟩ : ∃ an on : Nat, ((an : Int), (on : Int)) ∈ hs ∧ s = (an : Int) ∧ X = jwR (5 - on) an on m ∧ Y = (hs.filter fun x => decide (x.1 ≠ (an : Int))) ∧ ok = true := by
    rcases HX.out with ⟨hn, _⟩ | ⟨⟨_, h3⟩, _⟩ | ⟨a, o, ⟨_, e, hin⟩, e1, e2, e3⟩
    · exact absurd OK.out hn
    · obtain ⟨o, ho⟩ := hfull
      exact absurd ho (h3 o)
    · exact ⟨a, o, by rw [← e]; exact hin, e, e1, e2, e3⟩
  have TK := hide (fun (V : World) (lo hi : Nat) (p q : Value) (dd : RomV V lo hi p q m hs) (hv : hi ≤ V.heap.size) => l14Give_calls p q m hs an on lo hi V dd hv OK.out hin)
  rw [← hXe, ← hYe, ← hsa] at TK
  have SM := hide (giveP_small HX.out)
  clear HX hXe hYe hin hsa hfull
  go_wp2_with fail
  refine (TK.out _ _ _ _ _ D3.out (Nat.le_refl _)).mono ?_
  rintro e w4 ⟨h4, rfl, d4, c4'⟩
  have c4 := c4' _ _ D3.out.headIn
  clear c4'
  have X4 := X3.out.chg c4 (.inl XL.out)
  have B4 := B3.out.trans (c4.below (B := w.heap.size) (by have := XL.out; omega) B3.out.size)
  obtain ⟨ah, ch, rfl⟩ := d4.held.slice
  obtain ⟨n2, hn2⟩ : ∃ n, n = Y.length := ⟨_, rfl⟩
  rw [← hn2] at d4 ⊢
  have b5 := below_box w4 (.cells #[.slice af3 m.length cf3, .slice ah n2 ch] 29)
  have xx := BoxAt.new w4 #[.slice af3 m.length cf3, .slice ah n2 ch] 29
  have RF5 := hide (d4.rf.below (b5.mono (Nat.le_refl _)))
  have RH5 := hide (d4.rh.below b5)
  have X5 := hide (X4.below b5)
  have B5 := hide (B4.trans (b5.mono B4.size))
  have y0 := xx.c2.1
  have y1 := xx.c2.2
  clear X4 B4 d4 c4 b5 xx hn2 X3 B3 D3 TK
  go_wp2_with fail
  refine (l14Own_calls _ _ X Y _ RF5.out RH5.out SM.out.1 SM.out.2).mono ?_
  rintro e w7 ⟨f7, h7, rfl, d7, b7⟩
  have X7 := X5.out.below b7
  obtain ⟨af7, cf7, ah7, ch7, rfl, rfl⟩ := d7.sl
  obtain ⟨n1, hn1⟩ : ∃ n, n = X.length := ⟨_, rfl⟩
  obtain ⟨n2, hn2⟩ : ∃ n, n = Y.length := ⟨_, rfl⟩
  rw [← hn1, ← hn2] at d7 ⊢
  have e0 := X7.c2.1
  have e1 := X7.c2.2
  have q0 := X7.frozen 0
  have q1 := X7.frozen 1
  have lt5 := X5.out.lt
  have g8 := grown_tr (grown_setCell w7 (w.heap.size + 1) 0 (.slice af7 n1 cf7)) (grown_setCell _ (w.heap.size + 1) 1 (.slice ah7 n2 ch7))
  have Z8 := hide ((X7.set 0 (.slice af7 n1 cf7)).set 1 (.slice ah7 n2 ch7))
  have B7 := B5.out.trans (b7.mono B5.out.size)
  have D8 := hide ((d7.wider (lo' := w.heap.size + 2) (by omega) (Nat.le_refl _)).chg (Chg.ofGrown (lo := w.heap.size + 1) (hi := w.heap.size + 2) g8 (fun k hk => by cases hk; omega)) (.inr (Nat.le_refl _)))
  have G8 := hide (B7.grown g8 B7.size (fun j hj => by cases hj; omega))
  have S8 := hide g8.size
  clear X7 B7 g8 d7 b7 hn1 hn2 X5 B5 lt5 RF5 RH5 y0 y1
  go_wp2
  exact bodyPost_ret (res_rm2 rfl _ _ (w.heap.size + 1) _ _ (0, 0) rfl Z8.out) rfl ⟨_, _, rfl, D8.out.wider (by omega) S8.out, G8.out⟩
end Go.Proofs.Ytjffjoednmlkiaa

namespace Go.Proofs.Ytjffjoednmlkiaa
open Go.RowKit Go.Maps Go.MapKept Go.ChangeMaps
set_option linter.unusedVariables false

/-- Whether what the map holds at a place covers another. -/
def cvO (p q : Nat) (v : Option Int) : Nat := match v with | none => 0 | some o => if cvr p ((q : Int), o) = true then 1 else 0
def covS (F : Om) (p : Nat) : Nat := ((List.range 32).map fun q => cvO p q (F.getD q none)).sum
theorem sum_upd (f g : Nat → Nat) (q : Nat) (h : ∀ i, i ≠ q → f i = g i) : ∀ n, (q < n → ((List.range n).map f).sum + g q = ((List.range n).map g).sum + f q) ∧ (n ≤ q → ((List.range n).map f).sum = ((List.range n).map g).sum)
  | 0 => ⟨fun h => by omega, fun _ => rfl⟩
  | n + 1 => by
      obtain ⟨i1, i2⟩ := sum_upd f g q h n
      rw [List.range_succ, List.map_append, List.map_append, List.sum_append, List.sum_append]
      simp only [List.map_cons, List.map_nil, List.sum_cons, List.sum_nil, Nat.add_zero]
      constructor
      · intro hq
        by_cases e : n = q
        · subst e
          have := i2 (Nat.le_refl _)
          omega
        · have := i1 (by omega)
          have := h n e
          omega
      · intro hq
        have := i2 (by omega)
        have := h n (by omega)
        omega
/-- What is covered when the map is changed at one place. -/
theorem covS_set (F : Om) (q : Nat) (v : Option Int) (p : Nat) (hl : F.length = 32) (hq : q < 32) : covS (F.set q v) p + cvO p q (F.getD q none) = covS F p + cvO p q v := by
  have h := (sum_upd (fun i => cvO p i ((F.set q v).getD i none)) (fun i => cvO p i (F.getD i none)) q (fun i hi => by
    show cvO p i ((F.set q v).getD i none) = cvO p i (F.getD i none)
    rw [getD_set _ _ _ _ _ (by rw [hl]; exact hq), if_neg hi]) 32).1 hq
  have e : (F.set q v).getD q none = v := by rw [getD_set _ _ _ _ _ (by rw [hl]; exact hq), if_pos rfl]
  simp only [e] at h
  exact h
/-- A room is covered as its two halves are. -/
theorem cvO_half (p a o : Nat) (v : Int) (hv : v = ((o + 1 : Nat) : Int)) : cvO p a (some v) = cvO p a (some (o : Int)) + cvO p (a + 2 ^ o) (some (o : Int)) := by
  subst hv
  have e : pw (o + 1) = 2 * pw o := pw_succ o
  have e2 : ((a + 2 ^ o : Nat) : Int) = (a : Int) + pw o := by unfold pw; omega
  have p1 := pw_pos o
  simp only [cvO, cvr, Int.toNat_natCast, e, e2, decide_eq_true_eq]
  by_cases h1 : (a : Int) ≤ (p : Int) ∧ (p : Int) < (a : Int) + pw o
  · rw [if_pos h1, if_pos (by omega), if_neg (by omega)]
  · by_cases h2 : (a : Int) + pw o ≤ (p : Int) ∧ (p : Int) < (a : Int) + pw o + pw o
    · rw [if_neg h1, if_pos h2, if_pos (by omega)]
    · rw [if_neg h1, if_neg h2, if_neg (by omega)]
/-- What the map holds, as a list. -/
def entG (F : Om) : List Hl := (List.range 32).filterMap fun (q : Nat) => (F.getD q none).map fun o => ((q : Int), o)
theorem entG_count (F : Om) (p : Nat) : (entG F).countP (cvr p) = covS F p := by
  unfold entG covS
  generalize List.range 32 = L
  induction L with
  | nil => rfl
  | cons q L ih =>
    rw [List.filterMap_cons, List.map_cons, List.sum_cons, ← ih]
    cases F.getD q none with
    | none => simp [cvO]
    | some o =>
      simp only [Option.map_some, List.countP_cons, cvO]
      omega
theorem entG_mem (F : Om) (hl : F.length = 32) (k o : Int) : (k, o) ∈ entG F ↔ lkM F k = some o := by
  unfold entG
  rw [List.mem_filterMap]
  constructor
  · rintro ⟨q, hq, h⟩
    cases hv : F.getD q none with
    | none => rw [hv] at h; simp at h
    | some x =>
      rw [hv] at h
      simp only [Option.map_some, Option.some.injEq, Prod.mk.injEq] at h
      obtain ⟨rfl, rfl⟩ := h
      rw [lkM_nat, hv]
  · intro h
    obtain ⟨h0, h1, h2⟩ := lkM_some h
    refine ⟨k.toNat, List.mem_range.2 (by omega), ?_⟩
    rw [h2]
    simp only [Option.map_some, Option.some.injEq, Prod.mk.injEq, and_true]
    omega
theorem entG_rise (F : Om) : (entG F).Pairwise (fun x y => x.1 < y.1) := by
  unfold entG
  refine List.pairwise_filterMap.2 ((List.pairwise_lt_range).imp (fun {a b} hab x hx y hy => ?_))
  cases h1 : F.getD a none with
  | none => rw [h1] at hx; simp at hx
  | some u =>
    cases h2 : F.getD b none with
    | none => rw [h2] at hy; simp at hy
    | some v =>
      rw [h1] at hx
      rw [h2] at hy
      simp only [Option.map_some, Option.some.injEq] at hx hy
      subst hx
      subst hy
      show (a : Int) < (b : Int)
      omega
theorem IsHeld.count {H : Om} {hs : List Hl} (h : IsHeld H hs) (p : Nat) : hs.countP (cvr p) = covS H p := by
  have nd1 : (entG H).Nodup := (entG_rise H).imp (fun hab e => by rw [e] at hab; omega)
  have nd2 : hs.Nodup := h.rise.imp (fun hab e => by rw [e] at hab; omega)
  rw [← entG_count]
  exact ((List.perm_ext_iff_of_nodup nd2 nd1).2 (fun x => (h.mem x.1 x.2).trans (entG_mem H h.len x.1 x.2).symm)).countP_eq _
end Go.Proofs.Ytjffjoednmlkiaa

namespace Go.Proofs.Ytjffjoednmlkiaa
open Go.RowKit Go.Maps Go.MapKept Go.ChangeMaps
set_option linter.unusedVariables false

theorem adj_get {α : Type} (R : α → α → Prop) (xs : List α) (d : α) (h : xs.Pairwise R) (i : Nat) (hi : i < xs.length) (e : i ≠ 0) : R (xs.getD (i - 1) d) (xs.getD i d) := by
  have := List.pairwise_iff_getElem.1 h (i - 1) i (by omega) hi (by omega)
  simp only [List.getD_eq_getElem?_getD, List.getElem?_eq_getElem hi, List.getElem?_eq_getElem (show i - 1 < xs.length by omega), Option.getD_some]
  exact this
theorem allR_nodup : ∀ (m : List (List Int)) (s : Nat), (∀ o, o < m.length → (m.getD o []).Nodup) → (allR s m).Nodup
  | [], s, _ => List.nodup_nil
  | r :: m, s, h => by
      have ih := allR_nodup m (s + 1) (fun o ho => by have := h (o + 1) (by simpa using ho); simpa using this)
      have h0 := h 0 (by simp)
      rw [show allR s (r :: m) = r.map (fun x => (x, (s : Int))) ++ allR (s + 1) m from rfl]
      have h0' : r.Nodup := by simpa using h0
      refine List.nodup_append.2 ⟨List.pairwise_map.2 (List.Pairwise.imp (fun {a b} hab e => hab (congrArg Prod.fst e)) h0'), ih, ?_⟩
      rintro ⟨k, o⟩ hx y hy rfl
      obtain ⟨x, hx1, he⟩ := List.mem_map.1 hx
      simp only [Prod.mk.injEq] at he
      obtain ⟨rfl, rfl⟩ := he
      obtain ⟨i, _, h2, _⟩ := (mem_allR m (s + 1) _ _).1 hy
      omega
theorem AllRows.allMem {F : Om} {m : List (List Int)} (h : AllRows F m) (hv : Vals F) (k o : Int) : (k, o) ∈ allR 0 m ↔ lkM F k = some o := by
  rw [mem_allR]
  constructor
  · rintro ⟨i, h1, rfl, h3⟩
    rw [Nat.zero_add]
    exact ((h.row i (by rw [← h.six]; exact h1)).mem k).1 h3
  · intro hk
    have := hv _ o (lkM_some hk).2.2
    refine ⟨o.toNat, by rw [h.six]; omega, by omega, ?_⟩
    refine ((h.row o.toNat (by omega)).mem k).2 ?_
    rw [hk]; congr 1; omega
theorem AllRows.count {F : Om} {m : List (List Int)} (h : AllRows F m) (hv : Vals F) (p : Nat) : (allR 0 m).countP (cvr p) = covS F p := by
  have nd1 : (entG F).Nodup := (entG_rise F).imp (fun hab e => by rw [e] at hab; omega)
  have nd2 : (allR 0 m).Nodup := allR_nodup m 0 (fun o ho => (h.row o (by rw [← h.six]; exact ho)).rise.imp (fun hab e => by omega))
  rw [← entG_count]
  exact ((List.perm_ext_iff_of_nodup nd2 nd1).2 (fun x => (h.allMem hv x.1 x.2).trans (entG_mem F h.len x.1 x.2).symm)).countP_eq _
/-- Good rooms, told of the two maps. -/
structure OkM (F H : Om) (m : List (List Int)) (hs : List Hl) : Prop where
  all : AllRows F m
  heldIs : IsHeld H hs
  fitF : ∀ k o, lkM F k = some o → rmP k o
  fitH : ∀ k o, lkM H k = some o → rmP k o
  cov : ∀ p, p < 32 → covS F p + covS H p = 1
  bud : ∀ (q o : Nat), o < 5 → F.getD q none = some (o : Int) → F.getD (budN q o) none ≠ some (o : Int)
theorem OkM.vals {F H : Om} {m : List (List Int)} {hs : List Hl} (h : OkM F H m hs) : Vals F := fun p x hx => by
  have := h.fitF (p : Int) x (by rw [lkM_nat]; exact hx)
  exact ⟨this.1, this.2.1⟩
theorem RoomsOk.okM {m : List (List Int)} {hs : List Hl} (h : RoomsOk m hs) : OkM (freeG m) (heldM hs) m hs := by
  refine ⟨h.all, h.heldIs, fun k o hk => h.rmFree (h.freeMem hk), fun k o hk => h.rmHeld ((h.heldIs.mem k o).2 hk), fun p hp => ?_, fun q o ho hq hb => ?_⟩
  · have := h.cov p hp
    rw [List.countP_append] at this
    rw [← h.all.count h.vals, ← h.heldIs.count]
    exact this
  · have m1 := ((h.all.row o (by omega)).mem (q : Int)).2 (by rw [lkM_nat]; exact hq)
    have m2 := ((h.all.row o (by omega)).mem (budN q o : Int)).2 (by rw [lkM_nat]; exact hb)
    obtain ⟨i, hi, he⟩ := List.getElem_of_mem m1
    have hr := h.rows o (by rw [h.len]; omega) i hi
    have eg : (m.getD o []).getD i 0 = (q : Int) := by
      rw [List.getD_eq_getElem?_getD, List.getElem?_eq_getElem hi, Option.getD_some, he]
    rw [eg] at hr
    obtain ⟨r1, r2, r3, r4, r5⟩ := hr.1
    have q32 : q < 32 := by omega
    have qm : q % 2 ^ o = 0 := by
      rw [Int.toNat_natCast] at r5
      unfold pw at r5
      omega
    have hbud := (bud_all q q32 o ho qm).1
    exact hr.2.2 (by omega) (by rw [hbud]; exact m2)
theorem OkM.ok {F H : Om} {m : List (List Int)} {hs : List Hl} (h : OkM F H m hs) : RoomsOk m hs := by
  refine ⟨h.all.six, fun o ho i hi => ?_, fun i hi => ?_, fun p hp => ?_⟩
  · have o6 : o < 6 := by rw [← h.all.six]; exact ho
    have hmem := getD_memR (m.getD o []) i 0 hi
    have hk := ((h.all.row o o6).mem _).1 hmem
    have hr := h.fitF _ _ hk
    refine ⟨hr, ?_, fun o5 hb => ?_⟩
    · by_cases e : i = 0
      · exact .inl e
      · right
        exact adj_get _ _ 0 (h.all.row o o6).rise i hi e
    · obtain ⟨r1, r2, r3, r4, r5⟩ := hr
      obtain ⟨q, hq⟩ : ∃ q : Nat, (m.getD o []).getD i 0 = (q : Int) := ⟨((m.getD o []).getD i 0).toNat, by omega⟩
      rw [hq] at hb hk r4 r5
      have qm : q % 2 ^ o = 0 := by
        rw [Int.toNat_natCast] at r5
        unfold pw at r5
        omega
      have hbud := bud_all q (by omega) o (by omega) qm
      rw [hbud.1] at hb
      have hk2 := ((h.all.row o o6).mem _).1 hb
      rw [lkM_nat] at hk hk2
      exact h.bud q o (by omega) hk hk2
  · have hmem := getD_memR hs i hl0 hi
    have hk := (h.heldIs.mem (hs.getD i hl0).1 (hs.getD i hl0).2).1 hmem
    refine ⟨h.fitH _ _ hk, ?_⟩
    by_cases e : i = 0
    · exact .inl e
    · right
      exact adj_get _ _ hl0 h.heldIs.rise i hi e
  · rw [List.countP_append, h.all.count h.vals, h.heldIs.count]
    exact h.cov p hp
end Go.Proofs.Ytjffjoednmlkiaa

namespace Go.Proofs.Ytjffjoednmlkiaa
open Go.RowKit Go.Maps Go.MapKept Go.ChangeMaps
set_option linter.unusedVariables false

theorem half_bud : ∀ a : Nat, a < 32 → ∀ k : Nat, k < 5 → a % 2 ^ (k + 1) = 0 → budN (a + 2 ^ k) k = a ∧ (a + 2 ^ k) % 2 ^ k = 0 ∧ a + 2 ^ k < 32 ∧ a % 2 ^ k = 0 := by decide
theorem rm_of (a k : Nat) (ha : a < 32) (hk : k ≤ 5) (h : a % 2 ^ k = 0) : rmP (a : Int) (k : Int) := (rmB_iff _ _).1 (rm_nat a k ha hk h)
theorem rm_mod {a k : Nat} (h : rmP (a : Int) (k : Int)) : a < 32 ∧ k ≤ 5 ∧ a % 2 ^ k = 0 := by
  obtain ⟨r1, r2, r3, r4, r5⟩ := h
  rw [Int.toNat_natCast] at r5
  unfold pw at r5
  exact ⟨by omega, by omega, by omega⟩
/-- Between a room's leaving the free ones and its coming to the held ones. -/
structure Mid (F H : Om) (a k : Nat) : Prop where
  len : F.length = 32
  away : F.getD a none = none
  fit : ∀ q o, lkM F q = some o → rmP q o
  cov : ∀ p, p < 32 → covS F p + covS H p + cvO p a (some (k : Int)) = 1
  bud : ∀ (q o : Nat), o < 5 → F.getD q none = some (o : Int) → F.getD (budN q o) none ≠ some (o : Int)
  inner : ∀ q, a < q → q < a + 2 ^ k → F.getD q none = none
theorem Mid.step {F H : Om} {a k : Nat} (h : Mid F H a (k + 1)) (ha : a < 32) (hk : k < 5) (hm : a % 2 ^ (k + 1) = 0) : Mid (F.set (a + 2 ^ k) (some (k : Int))) H a k := by
  obtain ⟨b1, b2, b3, b4⟩ := half_bud a ha k hk hm
  have p1 := Nat.one_le_two_pow (n := k)
  have e2 : 2 ^ (k + 1) = 2 ^ k * 2 := Nat.pow_succ ..
  have hb := h.inner (a + 2 ^ k) (by omega) (by omega)
  have gs : ∀ i, (F.set (a + 2 ^ k) (some (k : Int))).getD i none = if i = a + 2 ^ k then some (k : Int) else F.getD i none := fun i => getD_set _ _ _ _ _ (by rw [h.len]; exact b3)
  refine ⟨by rw [List.length_set]; exact h.len, by rw [gs, if_neg (by omega)]; exact h.away, fun q o hq => ?_, fun p hp => ?_, fun q o ho hq hqb => ?_, fun q h1 h2 => ?_⟩
  · rw [lkM_set F _ _ (by rw [h.len]; exact b3)] at hq
    split at hq
    · rename_i e
      simp only [Option.some.injEq] at hq
      rw [e, ← hq]
      exact rm_of _ _ b3 (by omega) b2
    · exact h.fit q o hq
  · have c1 := covS_set F (a + 2 ^ k) (some (k : Int)) p h.len b3
    rw [hb] at c1
    have c2 := cvO_half p a k _ rfl
    have c3 := h.cov p hp
    have c4 : cvO p (a + 2 ^ k) none = 0 := rfl
    rw [c2] at c3
    omega
  · rw [gs] at hq hqb
    by_cases e : q = a + 2 ^ k
    · subst e
      rw [if_pos rfl] at hq
      simp only [Option.some.injEq] at hq
      obtain rfl : k = o := by omega
      rw [b1, if_neg (by omega), h.away] at hqb
      cases hqb
    · rw [if_neg e] at hq
      by_cases e3 : budN q o = a + 2 ^ k
      · rw [if_pos e3] at hqb
        simp only [Option.some.injEq] at hqb
        obtain rfl : k = o := by omega
        obtain ⟨m1, m2, m3⟩ := rm_mod (h.fit (q : Int) (k : Int) (by rw [lkM_nat]; exact hq))
        have := (bud_all q m1 k hk m3).2.2.2.2.2
        rw [e3, b1] at this
        subst this
        rw [h.away] at hq
        cases hq
      · rw [if_neg e3] at hqb
        exact h.bud q o ho hq hqb
  · rw [gs, if_neg (by omega)]
    exact h.inner q h1 (by omega)
theorem Mid.down (H : Om) (a want : Nat) (ha : a < 32) : ∀ (j : Nat) (F : Om), Mid F H a (want + j) → want + j ≤ 5 → a % 2 ^ (want + j) = 0 → Mid (plG a want j F) H a want ∧ a % 2 ^ want = 0
  | 0, F, h, _, hm => ⟨h, hm⟩
  | j + 1, F, h, h5, hm => by
      have hm' : a % 2 ^ ((want + j) + 1) = 0 := hm
      exact Mid.down H a want ha j _ (Mid.step h ha (by omega) hm') (by omega) (half_bud a ha (want + j) (by omega) hm').2.2.2
theorem RoomsOk.take {m : List (List Int)} {hs : List Hl} {s : Int} {o a : Nat} {r : List Int} (h : RoomsOk m hs) (h1 : ordN s ≤ o) (h2 : o < 6) (h4 : m.getD o [] = (a : Int) :: r) : RoomsOk (plR a (ordN s) (o - ordN s) (m.set o r)) (putH (a : Int) (ordN s : Int) hs) := by
  obtain ⟨t1, t2, t3, t4⟩ := take_is (s := s) h h1 h2 h4
  have K := h.okM
  have hk : lkM (freeG m) (a : Int) = some (o : Int) := by rw [lkM_nat]; exact t1
  obtain ⟨a32, o5, am⟩ := rm_mod (K.fitF _ _ hk)
  have eo : ordN s + (o - ordN s) = o := by omega
  have gs : ∀ i, ((freeG m).set a none).getD i none = if i = a then none else (freeG m).getD i none := fun i => getD_set _ _ _ _ _ (by rw [K.all.len]; exact a32)
  have M0 : Mid ((freeG m).set a none) (heldM hs) a (ordN s + (o - ordN s)) := by
    rw [eo]
    refine ⟨by rw [List.length_set]; exact K.all.len, by rw [gs, if_pos rfl], fun q x hq => ?_, fun p hp => ?_, fun q x hx hq hqb => ?_, fun q q1 q2 => ?_⟩
    · rw [lkM_set _ _ _ (by rw [K.all.len]; exact a32)] at hq
      split at hq
      · cases hq
      · exact K.fitF q x hq
    · have c1 := covS_set (freeG m) a none p K.all.len a32
      rw [t1] at c1
      have c2 := K.cov p hp
      have c3 : cvO p a none = 0 := rfl
      omega
    · rw [gs] at hq hqb
      split at hq
      · cases hq
      · split at hqb
        · cases hqb
        · exact K.bud q x hx hq hqb
    · rw [gs, if_neg (by omega)]
      exact h.inside hk q q1 q2
  obtain ⟨M1, am2⟩ := Mid.down (heldM hs) a (ordN s) a32 _ _ M0 (by omega) (by rw [eo]; exact am)
  have hHa : (heldM hs).getD a none = none := by
    rw [← lkM_nat]
    cases hq : lkM (heldM hs) (a : Int) with
    | none => rfl
    | some x => exact absurd ((K.heldIs.mem _ _).2 hq) (h.apart hk x)
  rw [hlG_pl] at t3
  refine OkM.ok (F := plG a (ordN s) (o - ordN s) ((freeG m).set a none)) (H := (heldM hs).set a (some (ordN s : Int))) ⟨t3, t4, M1.fit, fun k x hx => ?_, fun p hp => ?_, M1.bud⟩
  · rw [lkM_set _ _ _ (by rw [K.heldIs.len]; exact a32)] at hx
    split at hx
    · rename_i e
      simp only [Option.some.injEq] at hx
      rw [e, ← hx]
      exact rm_of _ _ a32 (ordN_le s) am2
    · exact K.fitH k x hx
  · have c1 := covS_set (heldM hs) a (some (ordN s : Int)) p K.heldIs.len a32
    rw [hHa] at c1
    have c2 := M1.cov p hp
    have c3 : cvO p a none = 0 := rfl
    omega
end Go.Proofs.Ytjffjoednmlkiaa

namespace Go.Proofs.Ytjffjoednmlkiaa
open Go.RowKit Go.Maps Go.MapKept Go.ChangeMaps
set_option linter.unusedVariables false

theorem bud_max : ∀ a : Nat, a < 32 → ∀ o : Nat, o < 5 → a % 2 ^ o = 0 → max a (budN a o) = min a (budN a o) + 2 ^ o := by decide
/-- Between a room's leaving the held ones and its coming to the free ones. -/
structure MidJ (F H : Om) (a k : Nat) : Prop where
  len : F.length = 32
  away : F.getD a none = none
  fit : ∀ q o, lkM F q = some o → rmP q o
  cov : ∀ p, p < 32 → covS F p + covS H p + cvO p a (some (k : Int)) = 1
  bud : ∀ (q o : Nat), o < 5 → F.getD q none = some (o : Int) → F.getD (budN q o) none ≠ some (o : Int)
/-- The two maps are good. -/
structure FinJ (F H : Om) : Prop where
  fit : ∀ q o, lkM F q = some o → rmP q o
  cov : ∀ p, p < 32 → covS F p + covS H p = 1
  bud : ∀ (q o : Nat), o < 5 → F.getD q none = some (o : Int) → F.getD (budN q o) none ≠ some (o : Int)
theorem MidJ.fin {F H : Om} {a o : Nat} (h : MidJ F H a o) (ha : a < 32) (ho : o ≤ 5) (hr : a % 2 ^ o = 0) (hn : ¬ (o < 5 ∧ F.getD (budN a o) none = some (o : Int))) : FinJ (F.set a (some (o : Int))) H := by
  have gs : ∀ i, (F.set a (some (o : Int))).getD i none = if i = a then some (o : Int) else F.getD i none := fun i => getD_set _ _ _ _ _ (by rw [h.len]; exact ha)
  refine ⟨fun q x hq => ?_, fun p hp => ?_, fun q x hx hq hqb => ?_⟩
  · rw [lkM_set F _ _ (by rw [h.len]; exact ha)] at hq
    split at hq
    · rename_i e
      simp only [Option.some.injEq] at hq
      rw [e, ← hq]
      exact rm_of _ _ ha ho hr
    · exact h.fit q x hq
  · have c1 := covS_set F a (some (o : Int)) p h.len ha
    rw [h.away] at c1
    have c2 := h.cov p hp
    have c3 : cvO p a none = 0 := rfl
    omega
  · rw [gs] at hq hqb
    by_cases e : q = a
    · subst e
      rw [if_pos rfl] at hq
      simp only [Option.some.injEq] at hq
      obtain rfl : o = x := by omega
      rw [if_neg (bud_all q ha o hx hr).2.2.2.1] at hqb
      exact hn ⟨hx, hqb⟩
    · rw [if_neg e] at hq
      by_cases e3 : budN q x = a
      · rw [if_pos e3] at hqb
        simp only [Option.some.injEq] at hqb
        obtain rfl : o = x := by omega
        obtain ⟨m1, m2, m3⟩ := rm_mod (h.fit (q : Int) (o : Int) (by rw [lkM_nat]; exact hq))
        have := (bud_all q m1 o hx m3).2.2.2.2.2
        rw [e3] at this
        rw [← this] at hq
        exact hn ⟨hx, hq⟩
      · rw [if_neg e3] at hqb
        exact h.bud q x hx hq hqb
theorem MidJ.join {F H : Om} {a o : Nat} (h : MidJ F H a o) (ha : a < 32) (o5 : o < 5) (hr : a % 2 ^ o = 0) (hc : F.getD (budN a o) none = some (o : Int)) : MidJ (F.set (budN a o) none) H (min a (budN a o)) (o + 1) := by
  obtain ⟨k1, k2, k3, k4, k5, k6⟩ := bud_all a ha o o5 hr
  have gs : ∀ i, (F.set (budN a o) none).getD i none = if i = budN a o then none else F.getD i none := fun i => getD_set _ _ _ _ _ (by rw [h.len]; exact k2)
  refine ⟨by rw [List.length_set]; exact h.len, ?_, fun q x hq => ?_, fun p hp => ?_, fun q x hx hq hqb => ?_⟩
  · rw [gs]
    split
    · rfl
    · rename_i e
      have : min a (budN a o) = a := by omega
      rw [this]; exact h.away
  · rw [lkM_set F _ _ (by rw [h.len]; exact k2)] at hq
    split at hq
    · cases hq
    · exact h.fit q x hq
  · have c1 := covS_set F (budN a o) none p h.len k2
    rw [hc] at c1
    have c2 := h.cov p hp
    have c3 : cvO p (budN a o) none = 0 := rfl
    have c4 := cvO_half p (min a (budN a o)) o _ rfl
    rw [← bud_max a ha o o5 hr] at c4
    rcases min_is a (budN a o) with ⟨x1, x2, x3⟩ | ⟨x1, x2, x3⟩
    · rw [x1, x2] at c4; rw [x1]; omega
    · rw [x1, x2] at c4; rw [x1]; omega
  · rw [gs] at hq hqb
    split at hq
    · cases hq
    · split at hqb
      · cases hqb
      · exact h.bud q x hx hq hqb
theorem jn_fin (H : Om) : ∀ (f a o : Nat) (F : Om), MidJ F H a o → f = 5 - o → o ≤ 5 → a < 32 → a % 2 ^ o = 0 → FinJ (jnG f a o (F.set a (some (o : Int)))) H
  | 0, a, o, F, h, hf, ho, ha, hr => h.fin ha ho hr (fun x => by omega)
  | f + 1, a, o, F, h, hf, ho, ha, hr => by
      have o5 : o < 5 := by omega
      obtain ⟨k1, k2, k3, k4, k5, k6⟩ := bud_all a ha o o5 hr
      have hgb : (F.set a (some (o : Int))).getD (budN a o) none = F.getD (budN a o) none := by
        rw [getD_set _ _ _ _ _ (by rw [h.len]; exact ha), if_neg k4]
      unfold jnG
      rw [hgb]
      by_cases hc : F.getD (budN a o) none = some (o : Int)
      · rw [if_pos ⟨o5, hc⟩]
        have e : (((F.set a (some (o : Int))).set (max a (budN a o)) none).set (min a (budN a o)) (some ((o + 1 : Nat) : Int))) = (F.set (budN a o) none).set (min a (budN a o)) (some ((o + 1 : Nat) : Int)) := by
          rcases min_is a (budN a o) with ⟨x1, x2, x3⟩ | ⟨x1, x2, x3⟩
          · rw [x1, x2, List.set_comm _ _ k4.symm, List.set_set]
          · rw [x1, x2, List.set_set, set_same F a h.away, List.set_set]
        rw [e]
        exact jn_fin H f _ (o + 1) _ (h.join ha o5 hr hc) (by omega) (by omega) (by omega) k3
      · rw [if_neg (fun x => hc x.2)]
        exact h.fin ha ho hr (fun x => hc x.2)
theorem RoomsOk.give {m : List (List Int)} {hs : List Hl} {an o : Nat} (h : RoomsOk m hs) (hh : ((an : Int), (o : Int)) ∈ hs) : RoomsOk (jwR (5 - o) an o m) (hs.filter fun x => decide (x.1 ≠ (an : Int))) := by
  obtain ⟨t1, t2, o5, a32, am, t3, t4⟩ := give_is h hh
  have K := h.okM
  have M0 : MidJ (freeG m) ((heldM hs).set an none) an o := by
    refine ⟨K.all.len, t2, K.fitF, fun p hp => ?_, K.bud⟩
    have c1 := covS_set (heldM hs) an none p K.heldIs.len a32
    rw [t1] at c1
    have c2 := K.cov p hp
    have c3 : cvO p an none = 0 := rfl
    omega
  have J := jn_fin _ (5 - o) an o _ M0 rfl o5 a32 am
  exact OkM.ok ⟨t3, t4, J.fit, fun k x hx => by
    rw [lkM_set _ _ _ (by rw [K.heldIs.len]; exact a32)] at hx
    split at hx
    · cases hx
    · exact K.fitH k x hx, J.cov, J.bud⟩
end Go.Proofs.Ytjffjoednmlkiaa

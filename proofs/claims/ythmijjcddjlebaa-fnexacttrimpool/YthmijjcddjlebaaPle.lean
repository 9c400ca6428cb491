/-
  NewPool, AllIn and DiffIn by the program and by the model, call by call. Each contract says what it asks.
-/
import Derived.Test.YthmijjcddjlebaaPld
import Derived.Test.YthmijjcddjlebaaNdy
namespace Go.Proofs.Ythmijjcddjlebaa
open Go.RowKit
set_option linter.unusedVariables false

theorem own_putAt {w : World} {lo g k cap n : Nat} {cs : List Int} (h : Own w lo (.slice (some ⟨g, 0, none⟩) k cap) cs) (hn : n < cs.length) :
    w.cell? ⟨g, n, none⟩ = some (.int .i64 (cs.getD n 0)) ∧ w.frozen? ⟨g, n, none⟩ = false ∧ ∀ y : Int, Own (w.setCell ⟨g, n, none⟩ (.int .i64 y)) lo (.slice (some ⟨g, 0, none⟩) k cap) (cs.set n y) ∧ w.grownBy (w.setCell ⟨g, n, none⟩ (.int .i64 y)) (some g) := by
  obtain ⟨g', cap', e, h1, h2, h3⟩ := own_put h hn
  simp only [Value.slice.injEq, Option.some.injEq, Addr.mk.injEq, and_true] at e
  obtain ⟨rfl, rfl, rfl⟩ := e
  exact ⟨h1, h2, h3⟩
/-- What is filled so far. -/
def fil (l : List Int) (k : Nat) : List Int := l.take k ++ List.replicate (l.length - k) 0
theorem fil_len (l : List Int) (k : Nat) (h : k ≤ l.length) : (fil l k).length = l.length := by simp [fil]; omega
theorem fil_step (l : List Int) (k : Nat) (h : k < l.length) : (fil l k).set k (l.getD k 0) = fil l (k + 1) := by
  have e1 : (l.take k).length = k := by simp; omega
  unfold fil
  rw [List.set_append_right _ _ (by omega), e1, Nat.sub_self]
  obtain ⟨j, hm⟩ : ∃ j, l.length - k = j + 1 := ⟨l.length - k - 1, by omega⟩
  have hm2 : l.length - (k + 1) = j := by omega
  rw [hm, hm2, List.replicate_succ, List.set_cons_zero, List.take_succ_eq_append_getElem h, List.append_assoc]
  simp only [List.getD_eq_getElem?_getD, List.getElem?_eq_getElem h, Option.getD_some, List.singleton_append]
theorem fil_zero (l : List Int) : fil l 0 = List.replicate l.length 0 := by simp [fil]
theorem fil_end (l : List Int) : fil l l.length = l := by simp [fil]
/-- All values of a version. -/
def allF (m : List Nd) (vs : List Int) (ver : Nat) : List Int := (List.range 16).map (getF m vs ver)
theorem allF_len (m : List Nd) (vs : List Int) (ver : Nat) : (allF m vs ver).length = 16 := by simp [allF]
theorem allF_get (m : List Nd) (vs : List Int) (ver k : Nat) (h : k < 16) : (allF m vs ver).getD k 0 = getF m vs ver k := by
  simp [allF, List.getD_eq_getElem?_getD, h]
/-- The keys below k at which two versions are unlike. -/
def difF (m : List Nd) (vs : List Int) (a b : Nat) : Nat → List Int
  | 0 => []
  | k + 1 => if getF m vs a k = getF m vs b k then difF m vs a b k else difF m vs a b k ++ [(k : Int)]
theorem difF_len (m : List Nd) (vs : List Int) (a b : Nat) : ∀ k, (difF m vs a b k).length ≤ k
  | 0 => Nat.le_refl _
  | k + 1 => by
    have := difF_len m vs a b k
    unfold difF
    split
    · omega
    · simp; omega
theorem newPool_own (w : World) : TPol (.slice none 0 0) (.slice (some ⟨w.heap.size + 1, 0, none⟩) 1 1) [] [-1] w.heap.size ((w.alloc (.cells #[.slice none 0 0, .slice (some ⟨w.heap.size + 1, 0, none⟩) 1 1] 43)).alloc (.cells #[.int .i64 (-1)] 3)).heap.size ((w.alloc (.cells #[.slice none 0 0, .slice (some ⟨w.heap.size + 1, 0, none⟩) 1 1] 43)).alloc (.cells #[.int .i64 (-1)] 3)) := by
  have hb : (World.heap ((w.alloc (.cells #[.slice none 0 0, .slice (some ⟨w.heap.size + 1, 0, none⟩) 1 1] 43)).alloc (.cells #[.int .i64 (-1)] 3)))[w.heap.size + 1]? = some (.cells ([(-1 : Int)].map (Value.int .i64)).toArray 3 (0, 0)) := by
    have := BoxAt.new (w.alloc (.cells #[.slice none 0 0, .slice (some ⟨w.heap.size + 1, 0, none⟩) 1 1] 43)) #[.int .i64 (-1)] 3
    rw [World.size_alloc] at this
    exact this
  have ho := own_of_block (base := w.heap.size) hb (by omega) (by unfold maxLen; simp)
  refine ⟨[], (BrV.nil _ w.heap.size w.heap.size).addE ho (by simp; omega) (fun b hb => ?_)⟩
  simp only [Value.ownBlock, Option.some.injEq] at hb
  subst hb
  simp

set_option maxRecDepth 100000 in
theorem newPool_calls (w : World) : Calls Try.prog 27 #[] w fun e w' => ∃ p r, e = .returned (.agg #[p, r]) ∧ TPol p r [] [-1] w.heap.size w'.heap.size w' ∧ Below w.heap.size w w' := by
  have T := hide (newPool_own w)
  have A := hide (Hand.twoP w #[.slice none 0 0, .slice (some ⟨w.heap.size + 1, 0, none⟩) 1 1] #[.int .i64 (-1)] 43 3)
  go_enter Try.func27, Try.ntmps27
  go_wp2
  exact bodyPost_ret (res_pl rfl _ _ w.heap.size _ _ (0, 0) rfl (A.out.atBox 1 rfl)) rfl ⟨_, _, rfl, T.out, A.out.below⟩

set_option maxRecDepth 100000 in
theorem sNewPool_calls (w : World) : Calls Try.prog 26 #[] w fun e w' => ∃ p r, e = .returned (.agg #[p, r]) ∧ TPol p r [] [-1] w.heap.size w'.heap.size w' ∧ Below w.heap.size w w' := by
  have T := hide (newPool_own w)
  have A := hide (Hand.twoP w #[.slice none 0 0, .slice (some ⟨w.heap.size + 1, 0, none⟩) 1 1] #[.int .i64 (-1)] 43 3)
  go_enter Try.func26, Try.ntmps26
  go_wp2
  exact bodyPost_ret (res_pl rfl _ _ w.heap.size _ _ (0, 0) rfl (A.out.atBox 1 rfl)) rfl ⟨_, _, rfl, T.out, A.out.below⟩

set_option maxRecDepth 100000 in
set_option maxHeartbeats 1600000 in
theorem allIn_calls (p r : Value) (m : List Nd) (vs : List Int) (x : Int) (t : Bool) (w : World) (h : RdP w p r m vs) (ht : t = true ↔ thP m vs x) :
    Calls Try.prog 42 #[.agg #[p, r], .int .i64 x] w fun e' w' => ∃ v', e' = .returned (.tuple #[v', .bool t]) ∧ Own w' w.heap.size v' (gX t (allF m vs x.toNat)) ∧ Below w.heap.size w w' := by
  have A0 := hide ((Hand.start w).box #[p, r] 43)
  have R := hide (h.below A0.out.below)
  obtain ⟨⟨ap, cp, rfl, _⟩, ⟨ar, cr, rfl, _⟩⟩ := h
  have HT := hide ht
  clear ht
  obtain ⟨Z, hZ⟩ : ∃ Z, Z = gX t (allF m vs x.toNat) := ⟨_, rfl⟩
  rw [← hZ]
  have HZ := hide hZ
  clear hZ
  go_enter Try.func42, Try.ntmps42
  go_wp2_with fail
  refine (hasVersion_calls _ _ m vs x t _ R.out HT.out).mono ?_
  rintro e' w1 ⟨rfl, b0⟩
  have A1 := hide (A0.out.step b0)
  have R1 := hide (R.out.below b0)
  clear b0 A0 R
  cases t with
  | false =>
    obtain rfl : Z = [] := HZ.out
    go_wp2
    go_ret2
    exact ⟨_, rfl, World.ownsRow_nil _ _ _ _, A1.out.below⟩
  | true =>
    have th := HT.out.1 rfl
    obtain ⟨ver, rfl⟩ : ∃ n : Nat, x = (n : Int) := ⟨x.toNat, by have := th.2.1; omega⟩
    have OK := hide th.1
    have hv : ver < vs.length := by have := th.2.2; omega
    have hL : Z = allF m vs ver := HZ.out
    clear HZ
    obtain ⟨L, rfl⟩ : ∃ L, L = Z := ⟨_, rfl⟩
    have LL : Hid (L.length = 16) := by rw [hL]; exact allF_len m vs ver
    have LG : Hid (∀ k, k < 16 → L.getD k 0 = getF m vs ver k) := by rw [hL]; exact fun k hk => allF_get m vs ver k hk
    clear th hL
    go_wp2_with (at_make; refine wpList_make_ints rfl _ _ rfl w1.heap.size _ _ 16 rfl rfl (by omega) (by omega) (by omega) (Nat.le_refl _) ?_)
    intro w2 ho hg
    have O := hide ho
    have B := hide ((Below.refl w1.heap.size w1).grown hg (Nat.le_refl _) (fun k h => by cases h))
    clear ho hg
    go_wp2
    go_loopw [15] (fun vi wr => ∃ k : Nat, k ≤ 16 ∧ vi = .int .i64 k ∧ Own wr w1.heap.size (.slice (some ⟨w1.heap.size, 0, none⟩) 16 16) (fil L k) ∧ Below w1.heap.size w1 wr) (fun vi _ => 16 - (intOf vi).toNat)
    case atStart => exact ⟨0, by omega, rfl, by rw [fil_zero, LL.out]; exact O.out, B.out⟩
    case round =>
      obtain ⟨k, hk, rfl, ho, hb⟩ := hrel
      have O1 := hide ho
      have B1 := hide hb
      clear ho hb O B
      by_cases hlt : k < 16
      · have hlt' : (k : Int) < 16 := by omega
        obtain ⟨y, hy⟩ : ∃ y, getF m vs ver k = y := ⟨_, rfl⟩
        have HY := hide hy
        clear hy
        obtain ⟨p0, p1⟩ := ((A1.out.atBox 0 rfl).below B1.out).c2
        go_wp2_with fail
        refine (valueIn_calls _ _ m vs ver k y _ (R1.out.below B1.out) OK.out hv hlt HY.out).mono ?_
        rintro e' w3 ⟨rfl, b3⟩
        have B3 := hide (B1.out.trans (b3.mono B1.out.size))
        have ho := O1.out.below b3
        obtain ⟨c0, f0, put⟩ := own_putAt ho (n := k) (by rw [fil_len L k (by rw [LL.out]; omega), LL.out]; omega)
        have PY := put y
        have ey : (fil L k).set k y = fil L (k + 1) := by rw [← HY.out, ← LG.out k hlt]; exact fil_step L k (by rw [LL.out]; omega)
        rw [ey] at PY
        have O4 := hide PY.1
        have B4 := hide (B3.out.grown PY.2 B3.out.size (fun j hj => by cases hj; exact Nat.le_refl _))
        clear b3 ho put PY ey p0 p1
        go_wp2
        go_roundw
        case rel => exact ⟨k + 1, by omega, by go_num, O4.out, B4.out⟩
        case measure => simp [intOf]; omega
      · obtain rfl : k = 16 := by omega
        have ho := O1.out
        rw [show (16 : Nat) = L.length from LL.out.symm, fil_end] at ho
        rw [LL.out] at ho
        have O4 := hide ho
        clear ho
        go_wp2
        go_ret2
        exact ⟨_, rfl, ownsRow_mono O4.out A1.out.below.size, (A1.out.step B1.out).below⟩

set_option maxRecDepth 100000 in
set_option maxHeartbeats 1600000 in
theorem l11All_calls (p r : Value) (m : List Nd) (vs : List Int) (ver : Nat) (w : World) (h : RdP w p r m vs) (hok : okP m vs) (hv : ver < vs.length) :
    Calls Try.prog 103 #[.agg #[p, r], .int .i64 ver] w fun e' w' => ∃ v', e' = .returned v' ∧ Own w' w.heap.size v' (allF m vs ver) ∧ Below w.heap.size w w' := by
  have A0 := hide ((Hand.start w).box #[p, r] 43)
  have R := hide (h.below A0.out.below)
  obtain ⟨⟨ap, cp, rfl, _⟩, ⟨ar, cr, rfl, _⟩⟩ := h
  have OK := hide hok
  obtain ⟨L, hL⟩ : ∃ L, L = allF m vs ver := ⟨_, rfl⟩
  have LL : Hid (L.length = 16) := by rw [hL]; exact allF_len m vs ver
  have LG : Hid (∀ k, k < 16 → L.getD k 0 = getF m vs ver k) := by rw [hL]; exact fun k hk => allF_get m vs ver k hk
  rw [← hL]
  clear hok hL
  obtain ⟨w0, hw0⟩ : ∃ w0, w0 = w.alloc (.cells #[.slice ap m.length cp, .slice ar vs.length cr] 43) := ⟨_, rfl⟩
  rw [← hw0] at A0 R
  have W0 := hide hw0
  clear hw0
  go_enter Try.func103, Try.ntmps103
  go_wp2
  rw [← W0.out]
  go_loopw [5, 6] (fun vx vk wr => ∃ k : Nat, k ≤ 16 ∧ vk = .int .i64 k ∧ Own wr w0.heap.size vx (L.take k) ∧ Below w0.heap.size w0 wr) (fun _ vk _ => 16 - (intOf vk).toNat)
  case atStart => exact ⟨0, Nat.zero_le _, rfl, World.ownsRow_nil _ _ _ _, Below.refl _ _⟩
  case round =>
    obtain ⟨k, hk, rfl, ho, hb⟩ := hrel
    have O := hide ho
    have B := hide hb
    clear ho hb
    by_cases hlt : k < 16
    · have hlt' : (k : Int) < 16 := by omega
      obtain ⟨y, hy⟩ : ∃ y, getF m vs ver k = y := ⟨_, rfl⟩
      have HY := hide hy
      clear hy
      obtain ⟨p0, p1⟩ := ((A0.out.atBox 0 rfl).below B.out).c2
      go_wp2_with fail
      refine (l11Get_calls _ _ m vs ver k y _ (R.out.below B.out) OK.out hv hlt HY.out).mono ?_
      rintro e' w1 ⟨rfl, b1⟩
      have B1 := hide (B.out.trans (b1.mono B.out.size))
      have O1 := hide (O.out.below b1)
      have O2 := hide (O1.out.alloc (.cells #[.int .i64 y] 3))
      have HL2 : Hid ((L.take k).length = k) := by show (L.take k).length = k; rw [List.length_take, LL.out]; omega
      clear b1
      go_wp2_with (at_builtin; refine wpList_append_rd rfl _ _ rfl w0.heap.size _ (L.take k).length (L.take k) [y] rfl O2.out _ rfl rd_singleR (by rw [HL2.out]; simp; omega) (by have := B1.out.size; simp; omega) ?_)
      intro v' w3 ho3 hg3
      have hb3 : Below w0.heap.size w0 w3 := (B1.out.alloc B1.out.size _).grown hg3 (by have := B1.out.size; simp; omega) (fun i hi => (O1.out.lt i hi).1)
      have e : L.take k ++ [y] = L.take (k + 1) := by rw [take_succ_getD L k 0 (by rw [LL.out]; exact hlt), LG.out k hlt, HY.out]
      rw [e] at ho3
      have O3 := hide ho3
      have B3 := hide hb3
      clear ho3 hg3 hb3 e p0 p1
      go_wp2
      go_roundw
      case rel => exact ⟨k + 1, by omega, by go_num, O3.out, B3.out⟩
      case measure => simp [intOf]; omega
    · obtain rfl : k = 16 := by omega
      have ho := O.out
      rw [List.take_of_length_le (by rw [LL.out]; exact Nat.le_refl _)] at ho
      have OX := hide ho
      clear ho O
      go_wp2
      go_ret
      exact ⟨_, rfl, ownsRow_mono OX.out A0.out.below.size, (A0.out.step B.out).below⟩

set_option maxRecDepth 100000 in
set_option maxHeartbeats 1600000 in
theorem sAllIn_calls (p r : Value) (m : List Nd) (vs : List Int) (x : Int) (t : Bool) (w : World) (h : RdP w p r m vs) (ht : t = true ↔ thP m vs x) :
    Calls Try.prog 41 #[.agg #[p, r], .int .i64 x] w fun e' w' => ∃ v', e' = .returned (.tuple #[v', .bool t]) ∧ Own w' w.heap.size v' (gX t (allF m vs x.toNat)) ∧ Below w.heap.size w w' := by
  have A0 := hide ((Hand.start w).box #[p, r] 43)
  have R := hide (h.below A0.out.below)
  obtain ⟨⟨ap, cp, rfl, _⟩, ⟨ar, cr, rfl, _⟩⟩ := h
  have HT := hide ht
  clear ht
  obtain ⟨Z, hZ⟩ : ∃ Z, Z = gX t (allF m vs x.toNat) := ⟨_, rfl⟩
  rw [← hZ]
  have HZ := hide hZ
  clear hZ
  go_enter Try.func41, Try.ntmps41
  go_wp2_with fail
  refine (l11There_calls _ _ m vs x t _ R.out HT.out).mono ?_
  rintro e' w1 ⟨rfl, b0⟩
  have A1 := hide (A0.out.step b0)
  have R1 := hide (R.out.below b0)
  clear b0 A0 R
  cases t with
  | false =>
    obtain rfl : Z = [] := HZ.out
    go_wp2
    go_ret2
    exact ⟨_, rfl, World.ownsRow_nil _ _ _ _, A1.out.below⟩
  | true =>
    have th := HT.out.1 rfl
    obtain ⟨ver, rfl⟩ : ∃ n : Nat, x = (n : Int) := ⟨x.toNat, by have := th.2.1; omega⟩
    have OK := hide th.1
    have hv : ver < vs.length := by have := th.2.2; omega
    have hz : Z = allF m vs ver := HZ.out
    subst hz
    obtain ⟨p0, p1⟩ := (A1.out.atBox 0 rfl).c2
    clear th
    go_wp2_with fail
    refine (l11All_calls _ _ m vs ver _ R1.out OK.out hv).mono ?_
    rintro e' w2 ⟨v', rfl, o2, b2⟩
    have O2 := hide (ownsRow_mono o2 A1.out.below.size)
    have B2 := hide b2
    clear o2 b2
    go_wp2
    go_ret2
    exact ⟨_, rfl, O2.out, (A1.out.step B2.out).below⟩

set_option maxRecDepth 100000 in
set_option maxHeartbeats 3200000 in
theorem sDiffIn_calls (p r : Value) (m : List Nd) (vs : List Int) (x1 x2 : Int) (t : Bool) (w : World) (h : RdP w p r m vs) (ht : t = true ↔ thP m vs x1 ∧ thP m vs x2) :
    Calls Try.prog 46 #[.agg #[p, r], .int .i64 x1, .int .i64 x2] w fun e' w' => ∃ v', e' = .returned (.tuple #[v', .bool t]) ∧ Own w' w.heap.size v' (gX t (difF m vs x1.toNat x2.toNat 16)) ∧ Below w.heap.size w w' := by
  have A0 := hide ((Hand.start w).box #[p, r] 43)
  have R := hide (h.below A0.out.below)
  obtain ⟨⟨ap, cp, rfl, _⟩, ⟨ar, cr, rfl, _⟩⟩ := h
  obtain ⟨t1, h1⟩ := bol_of (thP m vs x1)
  obtain ⟨t2, h2⟩ := bol_of (thP m vs x2)
  have H1 := hide h1
  have H2 := hide h2
  have HT := hide ht
  clear ht h1 h2
  obtain ⟨Z, hZ⟩ : ∃ Z, Z = gX t (difF m vs x1.toNat x2.toNat 16) := ⟨_, rfl⟩
  rw [← hZ]
  have HZ := hide hZ
  clear hZ
  go_enter Try.func46, Try.ntmps46
  go_wp2_with fail
  refine (l11There_calls _ _ m vs x1 t1 _ R.out H1.out).mono ?_
  rintro e' w1 ⟨rfl, b0⟩
  have A1 := hide (A0.out.step b0)
  have R1 := hide (R.out.below b0)
  clear b0 A0 R
  obtain ⟨p0, p1⟩ := (A1.out.atBox 0 rfl).c2
  cases t1 with
  | false =>
    obtain rfl := bol_no HT.out (fun h => absurd (H1.out.2 h.1) (by simp))
    obtain rfl : Z = [] := HZ.out
    go_wp2
    go_ret2
    exact ⟨_, rfl, World.ownsRow_nil _ _ _ _, A1.out.below⟩
  | true =>
    have T1 := hide (H1.out.1 rfl)
    go_wp2_with fail
    refine (l11There_calls _ _ m vs x2 t2 _ R1.out H2.out).mono ?_
    rintro e' w2 ⟨rfl, b0⟩
    have A2 := hide (A1.out.step b0)
    have R2 := hide (R1.out.below b0)
    clear b0 A1 R1 p0 p1
    cases t2 with
    | false =>
      obtain rfl := bol_no HT.out (fun h => absurd (H2.out.2 h.2) (by simp))
      obtain rfl : Z = [] := HZ.out
      go_wp2
      go_ret2
      exact ⟨_, rfl, World.ownsRow_nil _ _ _ _, A2.out.below⟩
    | true =>
      have th1 := T1.out
      have th2 := H2.out.1 rfl
      obtain rfl : t = true := HT.out.2 ⟨th1, th2⟩
      obtain ⟨va, rfl⟩ : ∃ n : Nat, x1 = (n : Int) := ⟨x1.toNat, by have := th1.2.1; omega⟩
      obtain ⟨vb, rfl⟩ : ∃ n : Nat, x2 = (n : Int) := ⟨x2.toNat, by have := th2.2.1; omega⟩
      have OK := hide th1.1
      have hva : va < vs.length := by have := th1.2.2; omega
      have hvb : vb < vs.length := by have := th2.2.2; omega
      have hz : Z = difF m vs va vb 16 := HZ.out
      clear HZ
      obtain ⟨D, hD⟩ : ∃ D, D = difF m vs va vb := ⟨_, rfl⟩
      have DS : Hid (∀ k, D (k + 1) = if getF m vs va k = getF m vs vb k then D k else D k ++ [(k : Int)]) := by rw [hD]; exact fun k => rfl
      have DL : Hid (∀ k, (D k).length ≤ k) := by rw [hD]; exact difF_len m vs va vb
      have DZ : Hid (D 0 = []) := by rw [hD]; rfl
      rw [← hD] at hz
      have HZ := hide hz
      clear th1 th2 hD hz
      go_wp2
      go_loopw [8, 9] (fun vx vk wr => ∃ k : Nat, k ≤ 16 ∧ vk = .int .i64 k ∧ Own wr w2.heap.size vx (D k) ∧ Below w2.heap.size w2 wr) (fun _ vk _ => 16 - (intOf vk).toNat)
      case atStart => exact ⟨0, Nat.zero_le _, rfl, by rw [DZ.out]; exact World.ownsRow_nil _ _ _ _, Below.refl _ _⟩
      case round =>
        obtain ⟨k, hk, rfl, ho, hb⟩ := hrel
        have O := hide ho
        have B := hide hb
        clear ho hb
        by_cases hlt : k < 16
        · have hlt' : (k : Int) < 16 := by omega
          obtain ⟨ya, hya⟩ : ∃ y, getF m vs va k = y := ⟨_, rfl⟩
          obtain ⟨yb, hyb⟩ : ∃ y, getF m vs vb k = y := ⟨_, rfl⟩
          have HYA := hide hya
          have HYB := hide hyb
          have ds := DS.out k
          rw [hya, hyb] at ds
          have E := hide ds
          clear hya hyb ds
          have F : Hid (∀ w', Below wr.heap.size wr w' → w'.cell? ⟨w.heap.size, 0, none⟩ = some (.slice ap m.length cp) ∧ w'.cell? ⟨w.heap.size, 1, none⟩ = some (.slice ar vs.length cr)) := fun w' hb => (((A2.out.atBox 0 rfl).below B.out).below hb).c2
          have RW := hide (R2.out.below B.out)
          go_wp2
          go_region_held3 (fun w' => w'.cell? ⟨w.heap.size, 0, none⟩ = some (.slice ap m.length cp) ∧ w'.cell? ⟨w.heap.size, 1, none⟩ = some (.slice ar vs.length cr)) (first | exact F.out _ (Below.refl _ _).drew | exact F.out _ B2.out | exact F.out _ B1.out)
            ((first | (go_at_call 90; refine (l11Get_calls _ _ m vs vb k yb _ (RW.out.below B1.out) OK.out hvb hlt HYB.out).mono ?_; rintro e' wr7 ⟨rfl, b7⟩; have B2 := hide (B1.out.trans (b7.mono B1.out.size)); clear b7) | (go_at_call 90; refine (l11Get_calls _ _ m vs va k ya _ (RW.out.below (Below.refl _ _).drew) OK.out hva hlt HYA.out).mono ?_; rintro e' wr6 ⟨rfl, b6⟩; have B1 := hide ((Below.refl wr.heap.size wr).drew.trans b6); clear b6)))
          have B5 := hide (B.out.trans (B2.out.mono B.out.size))
          have O5 := hide (O.out.below B2.out)
          clear B1 B2 F RW O B
          by_cases hyy : ya = yb
          · subst hyy
            have e : D (k + 1) = D k := by rw [E.out, if_pos rfl]
            have o6 := O5.out
            rw [← e] at o6
            have O6 := hide o6
            clear e o6
            go_wp2
            go_roundw
            case rel => exact ⟨k + 1, by omega, by go_num, O6.out, B5.out⟩
            case measure => simp [intOf]; omega
          · have e : D (k + 1) = D k ++ [(k : Int)] := by rw [E.out, if_neg hyy]
            have E2 := hide e
            have HL2 := hide (DL.out k)
            obtain ⟨xa, xc, rfl⟩ := row_slice O5.out
            have O2 := hide (O5.out.alloc (.cells #[.int .i64 (k : Int)] 3))
            clear e
            go_wp2_with (at_builtin; refine wpList_append_rd rfl _ _ rfl w2.heap.size _ (D k).length (D k) [(k : Int)] rfl O2.out _ rfl rd_singleR (by have := HL2.out; simp; omega) (by have := B5.out.size; simp; omega) ?_)
            intro v' w3 ho3 hg3
            have hb3 : Below w2.heap.size w2 w3 := (B5.out.alloc B5.out.size _).grown hg3 (by have := B5.out.size; simp; omega) (fun i hi => (O5.out.lt i hi).1)
            rw [← E2.out] at ho3
            have O3 := hide ho3
            have B3 := hide hb3
            clear ho3 hg3 hb3
            go_wp2
            go_roundw
            case rel => exact ⟨k + 1, by omega, by go_num, O3.out, B3.out⟩
            case measure => simp [intOf]; omega
        · obtain rfl : k = 16 := by omega
          have ox := O.out
          rw [← HZ.out] at ox
          have OX := hide ox
          clear O ox
          go_wp2
          go_ret2
          exact ⟨_, rfl, ownsRow_mono OX.out A2.out.below.size, (A2.out.step B.out).below⟩

set_option maxRecDepth 100000 in
set_option maxHeartbeats 3200000 in
theorem diffIn_calls (p r : Value) (m : List Nd) (vs : List Int) (x1 x2 : Int) (t : Bool) (w : World) (h : RdP w p r m vs) (ht : t = true ↔ thP m vs x1 ∧ thP m vs x2) :
    Calls Try.prog 47 #[.agg #[p, r], .int .i64 x1, .int .i64 x2] w fun e' w' => ∃ v', e' = .returned (.tuple #[v', .bool t]) ∧ Own w' w.heap.size v' (gX t (difF m vs x1.toNat x2.toNat 16)) ∧ Below w.heap.size w w' := by
  have A0 := hide ((Hand.start w).box #[p, r] 43)
  have R := hide (h.below A0.out.below)
  obtain ⟨⟨ap, cp, rfl, _⟩, ⟨ar, cr, rfl, _⟩⟩ := h
  obtain ⟨t1, h1⟩ := bol_of (thP m vs x1)
  obtain ⟨t2, h2⟩ := bol_of (thP m vs x2)
  have H1 := hide h1
  have H2 := hide h2
  have HT := hide ht
  clear ht h1 h2
  obtain ⟨Z, hZ⟩ : ∃ Z, Z = gX t (difF m vs x1.toNat x2.toNat 16) := ⟨_, rfl⟩
  rw [← hZ]
  have HZ := hide hZ
  clear hZ
  go_enter Try.func47, Try.ntmps47
  go_wp2_with fail
  refine (hasVersion_calls _ _ m vs x1 t1 _ R.out H1.out).mono ?_
  rintro e' w1 ⟨rfl, b0⟩
  have A1 := hide (A0.out.step b0)
  have R1 := hide (R.out.below b0)
  clear b0 A0 R
  obtain ⟨p0, p1⟩ := (A1.out.atBox 0 rfl).c2
  cases t1 with
  | false =>
    obtain rfl := bol_no HT.out (fun h => absurd (H1.out.2 h.1) (by simp))
    obtain rfl : Z = [] := HZ.out
    go_wp2
    go_ret2
    exact ⟨_, rfl, World.ownsRow_nil _ _ _ _, A1.out.below⟩
  | true =>
    have T1 := hide (H1.out.1 rfl)
    go_wp2_with fail
    refine (hasVersion_calls _ _ m vs x2 t2 _ R1.out H2.out).mono ?_
    rintro e' w2 ⟨rfl, b0⟩
    have A2 := hide (A1.out.step b0)
    have R2 := hide (R1.out.below b0)
    clear b0 A1 R1 p0 p1
    cases t2 with
    | false =>
      obtain rfl := bol_no HT.out (fun h => absurd (H2.out.2 h.2) (by simp))
      obtain rfl : Z = [] := HZ.out
      go_wp2
      go_ret2
      exact ⟨_, rfl, World.ownsRow_nil _ _ _ _, A2.out.below⟩
    | true =>
      have th1 := T1.out
      have th2 := H2.out.1 rfl
      obtain rfl : t = true := HT.out.2 ⟨th1, th2⟩
      obtain ⟨va, rfl⟩ : ∃ n : Nat, x1 = (n : Int) := ⟨x1.toNat, by have := th1.2.1; omega⟩
      obtain ⟨vb, rfl⟩ : ∃ n : Nat, x2 = (n : Int) := ⟨x2.toNat, by have := th2.2.1; omega⟩
      have OK := hide th1.1
      have hva : va < vs.length := by have := th1.2.2; omega
      have hvb : vb < vs.length := by have := th2.2.2; omega
      have hz : Z = difF m vs va vb 16 := HZ.out
      clear HZ
      obtain ⟨D, hD⟩ : ∃ D, D = difF m vs va vb := ⟨_, rfl⟩
      have DS : Hid (∀ k, D (k + 1) = if getF m vs va k = getF m vs vb k then D k else D k ++ [(k : Int)]) := by rw [hD]; exact fun k => rfl
      have DL : Hid (∀ k, (D k).length ≤ k) := by rw [hD]; exact difF_len m vs va vb
      have DZ : Hid (D 0 = []) := by rw [hD]; rfl
      rw [← hD] at hz
      have HZ := hide hz
      clear th1 th2 hD hz
      have O0 : Hid (Own (w2.alloc (.cells #[] 3)) w2.heap.size (.slice (some ⟨w2.heap.size, 0, none⟩) 0 0) []) := ((Rws.nil w2 w2.heap.size w2.heap.size).build (Nat.le_refl _) (Nat.le_refl _)).row 0 (by simp)
      have BB := hide (below_box w2 (.cells #[] 3))
      go_wp2
      go_loopw [8, 21] (fun vx vk wr => ∃ k : Nat, k ≤ 16 ∧ vk = .int .i64 k ∧ Own wr w2.heap.size vx (D k) ∧ Below w2.heap.size w2 wr) (fun _ vk _ => 16 - (intOf vk).toNat)
      case atStart => exact ⟨0, Nat.zero_le _, rfl, by rw [DZ.out]; exact O0.out, BB.out⟩
      case round =>
        obtain ⟨k, hk, rfl, ho, hb⟩ := hrel
        have O := hide ho
        have B := hide hb
        clear ho hb
        by_cases hlt : k < 16
        · have hlt' : (k : Int) < 16 := by omega
          obtain ⟨ya, hya⟩ : ∃ y, getF m vs va k = y := ⟨_, rfl⟩
          obtain ⟨yb, hyb⟩ : ∃ y, getF m vs vb k = y := ⟨_, rfl⟩
          have HYA := hide hya
          have HYB := hide hyb
          have ds := DS.out k
          rw [hya, hyb] at ds
          have E := hide ds
          clear hya hyb ds
          have F : Hid (∀ w', Below wr.heap.size wr w' → w'.cell? ⟨w.heap.size, 0, none⟩ = some (.slice ap m.length cp) ∧ w'.cell? ⟨w.heap.size, 1, none⟩ = some (.slice ar vs.length cr)) := fun w' hb => (((A2.out.atBox 0 rfl).below B.out).below hb).c2
          have RW := hide (R2.out.below B.out)
          go_wp2
          go_region_held3 (fun w' => w'.cell? ⟨w.heap.size, 0, none⟩ = some (.slice ap m.length cp) ∧ w'.cell? ⟨w.heap.size, 1, none⟩ = some (.slice ar vs.length cr)) (first | exact F.out _ (Below.refl _ _).drew | exact F.out _ B2.out | exact F.out _ B1.out)
            ((first | (go_at_call 93; refine (valueIn_calls _ _ m vs vb k yb _ (RW.out.below B1.out) OK.out hvb hlt HYB.out).mono ?_; rintro e' wr7 ⟨rfl, b7⟩; have B2 := hide (B1.out.trans (b7.mono B1.out.size)); clear b7) | (go_at_call 93; refine (valueIn_calls _ _ m vs va k ya _ (RW.out.below (Below.refl _ _).drew) OK.out hva hlt HYA.out).mono ?_; rintro e' wr6 ⟨rfl, b6⟩; have B1 := hide ((Below.refl wr.heap.size wr).drew.trans b6); clear b6)))
          have B5 := hide (B.out.trans (B2.out.mono B.out.size))
          have O5 := hide (O.out.below B2.out)
          clear B1 B2 F RW O B
          by_cases hyy : ya = yb
          · subst hyy
            have e : D (k + 1) = D k := by rw [E.out, if_pos rfl]
            have o6 := O5.out
            rw [← e] at o6
            have O6 := hide o6
            clear e o6
            go_wp2
            go_roundw
            case rel => exact ⟨k + 1, by omega, by go_num, O6.out, B5.out⟩
            case measure => simp [intOf]; omega
          · have e : D (k + 1) = D k ++ [(k : Int)] := by rw [E.out, if_neg hyy]
            have E2 := hide e
            have HL2 := hide (DL.out k)
            obtain ⟨xa, xc, rfl⟩ := row_slice O5.out
            have O2 := hide (O5.out.alloc (.cells #[.int .i64 (k : Int)] 3))
            clear e
            go_wp2_with (at_builtin; refine wpList_append_rd rfl _ _ rfl w2.heap.size _ (D k).length (D k) [(k : Int)] rfl O2.out _ rfl rd_singleR (by have := HL2.out; simp; omega) (by have := B5.out.size; simp; omega) ?_)
            intro v' w3 ho3 hg3
            have hb3 : Below w2.heap.size w2 w3 := (B5.out.alloc B5.out.size _).grown hg3 (by have := B5.out.size; simp; omega) (fun i hi => (O5.out.lt i hi).1)
            rw [← E2.out] at ho3
            have O3 := hide ho3
            have B3 := hide hb3
            clear ho3 hg3 hb3
            go_wp2
            go_roundw
            case rel => exact ⟨k + 1, by omega, by go_num, O3.out, B3.out⟩
            case measure => simp [intOf]; omega
        · obtain rfl : k = 16 := by omega
          have ox := O.out
          rw [← HZ.out] at ox
          have OX := hide ox
          clear O ox
          go_wp2
          go_ret2
          exact ⟨_, rfl, ownsRow_mono OX.out A2.out.below.size, (A2.out.step B.out).below⟩
end Go.Proofs.Ythmijjcddjlebaa

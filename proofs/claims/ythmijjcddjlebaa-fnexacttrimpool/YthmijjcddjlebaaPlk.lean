/-
  A pool that is trimmed: what a version comes to, new numbers (mathematics); the program's comeToIn, numbersAnew, the renaming and renamed, call by call. Each contract says what it asks.
-/
import Derived.Test.YthmijjcddjlebaaPlh
namespace Go.Proofs.Ythmijjcddjlebaa
open Go.RowKit
set_option linter.unusedVariables false

/-- What is come to: a number is marked, all of a list, what a version comes to, what all do. -/
def mkI (b : List Bool) (x : Int) : List Bool := if x = -1 then b else b.set x.toNat true
def mkS (b : List Bool) (xs : List Int) : List Bool := xs.foldl mkI b
def cmV (m : List Nd) (b : List Bool) (v : Int) : List Bool := if v = -1 then b else mkS (b.set v.toNat true) (m.getD v.toNat nd0).1
def cmP (m : List Nd) (vs : List Int) : List Bool := vs.foldl (cmV m) (List.replicate m.length false)
theorem mkI_len (b : List Bool) (x : Int) : (mkI b x).length = b.length := by unfold mkI; split <;> simp
theorem mkS_len : ∀ (xs : List Int) (b : List Bool), (mkS b xs).length = b.length
  | [], b => rfl
  | x :: xs, b => by
    have := mkS_len xs (mkI b x)
    rw [mkI_len] at this
    exact this
theorem cmV_len (m : List Nd) (b : List Bool) (v : Int) : (cmV m b v).length = b.length := by
  unfold cmV
  split
  · rfl
  · rw [mkS_len]; simp
theorem cmF_len (m : List Nd) : ∀ (vs : List Int) (b : List Bool), (vs.foldl (cmV m) b).length = b.length
  | [], b => rfl
  | v :: vs, b => by
    have := cmF_len m vs (cmV m b v)
    rw [cmV_len] at this
    exact this
theorem cmP_len (m : List Nd) (vs : List Int) : (cmP m vs).length = m.length := by rw [cmP, cmF_len]; simp
theorem mkS_succ (b : List Bool) (xs : List Int) (k : Nat) (h : k < xs.length) : mkS b (xs.take (k + 1)) = mkI (mkS b (xs.take k)) (xs.getD k 0) := by
  rw [take_succ_getD xs k 0 h, mkS, List.foldl_append]; rfl
theorem cmP_succ (m : List Nd) (vs : List Int) (k : Nat) (h : k < vs.length) : cmP m (vs.take (k + 1)) = cmV m (cmP m (vs.take k)) (vs.getD k 0) := by
  rw [take_succ_getD vs k 0 h, cmP, List.foldl_append]; rfl
theorem getD_setT (b : List Bool) (n k : Nat) : (b.set n true).getD k false = true ↔ b.getD k false = true ∨ (n = k ∧ k < b.length) := by
  simp only [List.getD_eq_getElem?_getD, List.getElem?_set]
  by_cases e : n = k
  · subst e
    by_cases h : n < b.length
    · simp [h]
    · simp [h]
  · simp [e]
theorem mkI_get (b : List Bool) (x : Int) (k : Nat) : (mkI b x).getD k false = true ↔ b.getD k false = true ∨ (x ≠ -1 ∧ x.toNat = k ∧ k < b.length) := by
  unfold mkI
  split
  · rename_i h; simp [h]
  · rename_i h; rw [getD_setT]; simp [h]
theorem mkS_get : ∀ (xs : List Int) (b : List Bool) (k : Nat), (mkS b xs).getD k false = true ↔ b.getD k false = true ∨ (∃ x ∈ xs, x ≠ -1 ∧ x.toNat = k ∧ k < b.length)
  | [], b, k => by simp [mkS]
  | x :: xs, b, k => by
    have := mkS_get xs (mkI b x) k
    rw [mkI_len] at this
    show (mkS (mkI b x) xs).getD k false = true ↔ _
    rw [this, mkI_get]
    simp only [List.mem_cons, exists_eq_or_imp]
    constructor
    · rintro ((h | h) | h)
      · exact .inl h
      · exact .inr (.inl h)
      · exact .inr (.inr h)
    · rintro (h | h | h)
      · exact .inl (.inl h)
      · exact .inl (.inr h)
      · exact .inr h
/-- What is marked is a leaf, or a branch whose kids are marked. -/
def Cls (m : List Nd) (b : List Bool) : Prop := ∀ k, k < m.length → b.getD k false = true → (m.getD k nd0).2 = true ∨ ∀ x ∈ (m.getD k nd0).1, x ≠ -1 → b.getD x.toNat false = true
theorem mem_getD {xs : List Int} {x : Int} (h : x ∈ xs) : ∃ i, i < xs.length ∧ xs.getD i 0 = x := by
  obtain ⟨i, hi, e⟩ := List.getElem_of_mem h
  exact ⟨i, hi, by rw [List.getD_eq_getElem?_getD, List.getElem?_eq_getElem hi]; exact e⟩
theorem cmV_cls {m : List Nd} {vs : List Int} (h : okP m vs) (b : List Bool) (hl : b.length = m.length) (v : Int) (hv : kB false m m.length v) (hc : Cls m b) : Cls m (cmV m b v) := by
  unfold cmV
  split
  · exact hc
  · rename_i hne
    have h1 := hv.resolve_left hne
    have hvl : v.toNat < m.length := by have := h1.1; have := h1.2.1; omega
    have hb := h.2.1 v.toNat hvl
    intro k hk hm
    rw [mkS_get, getD_setT] at hm
    simp only [List.length_set] at hm
    have up : ∀ j, b.getD j false = true → (mkS (b.set v.toNat true) (m.getD v.toNat nd0).1).getD j false = true := fun j hj => by
      rw [mkS_get, getD_setT]; exact .inl (.inl hj)
    rcases hm with (hm | ⟨e, _⟩) | ⟨x, hx, hx1, hx2, _⟩
    · rcases hc k hk hm with h2 | h2
      · exact .inl h2
      · exact .inr fun x hx hx1 => up _ (h2 x hx hx1)
    · subst e
      refine .inr fun x hx hx1 => ?_
      rw [mkS_get]
      refine .inr ⟨x, hx, hx1, rfl, ?_⟩
      obtain ⟨i, hi, rfl⟩ := mem_getD hx
      have h3 := (hb.2 i hi).2 h1.2.2
      have h4 := h3.resolve_left hx1
      have := h4.2.1
      have := h4.1
      simp only [List.length_set]
      omega
    · subst hx2
      obtain ⟨i, hi, rfl⟩ := mem_getD hx
      have h3 := (hb.2 i hi).2 h1.2.2
      exact .inl (h3.resolve_left hx1).2.2
theorem cmF_cls {m : List Nd} {vs : List Int} (h : okP m vs) : ∀ (us : List Int) (b : List Bool), b.length = m.length → (∀ v ∈ us, kB false m m.length v) → Cls m b → Cls m (us.foldl (cmV m) b)
  | [], b, _, _, hc => hc
  | v :: us, b, hl, hv, hc => cmF_cls h us (cmV m b v) (by rw [cmV_len]; exact hl) (fun u hu => hv u (List.mem_cons_of_mem _ hu)) (cmV_cls h b hl v (hv v List.mem_cons_self) hc)
theorem okP_mem {m : List Nd} {vs : List Int} (h : okP m vs) : ∀ v ∈ vs, kB false m m.length v := fun v hv => by
  obtain ⟨i, hi, rfl⟩ := mem_getD hv
  exact h.2.2 i hi
theorem cmP_cls {m : List Nd} {vs : List Int} (h : okP m vs) : Cls m (cmP m vs) := by
  refine cmF_cls h vs _ (by simp) (okP_mem h) ?_
  intro k hk hm
  simp [List.getD_eq_getElem?_getD, List.getElem?_replicate] at hm
  split at hm <;> simp at hm
theorem cmV_up (m : List Nd) (b : List Bool) (v : Int) (k : Nat) (h : b.getD k false = true) : (cmV m b v).getD k false = true := by
  unfold cmV
  split
  · exact h
  · rw [mkS_get, getD_setT]; exact .inl (.inl h)
theorem cmF_up (m : List Nd) : ∀ (us : List Int) (b : List Bool) (k : Nat), b.getD k false = true → (us.foldl (cmV m) b).getD k false = true
  | [], b, k, h => h
  | v :: us, b, k, h => cmF_up m us (cmV m b v) k (cmV_up m b v k h)
theorem cmF_ver (m : List Nd) : ∀ (us : List Int) (b : List Bool) (v : Int), v ∈ us → v ≠ -1 → v.toNat < b.length → (us.foldl (cmV m) b).getD v.toNat false = true
  | [], b, v, h, _, _ => by simp at h
  | u :: us, b, v, h, h1, h2 => by
    rcases List.mem_cons.1 h with rfl | h
    · refine cmF_up m us _ _ ?_
      unfold cmV
      rw [if_neg h1, mkS_get, getD_setT]
      exact .inl (.inr ⟨rfl, h2⟩)
    · exact cmF_ver m us _ v h h1 (by rw [cmV_len]; exact h2)
theorem cmP_ver {m : List Nd} {vs : List Int} (h : okP m vs) (v : Int) (hv : v ∈ vs) (h1 : v ≠ -1) : (cmP m vs).getD v.toNat false = true := by
  have h2 := (okP_mem h v hv).resolve_left h1
  exact cmF_ver m vs _ v hv h1 (by simp; have := h2.1; have := h2.2.1; omega)
/-- How many are marked below k; the new number; a branch renamed; those that stay. -/
def nmF (bs : List Bool) : Nat → Nat
  | 0 => 0
  | k + 1 => nmF bs k + (if bs.getD k false = true then 1 else 0)
theorem nmF_le (bs : List Bool) : ∀ k, nmF bs k ≤ k
  | 0 => Nat.le_refl _
  | k + 1 => by have := nmF_le bs k; unfold nmF; split <;> omega
def rnF (bs : List Bool) (x : Int) : Int := if x = -1 then -1 else (nmF bs x.toNat : Int)
def trB (bs : List Bool) (n : Nd) : Nd := if n.2 = true then n else (n.1.map (rnF bs), false)
def trP (m : List Nd) (bs : List Bool) : Nat → List Nd
  | 0 => []
  | k + 1 => trP m bs k ++ (if bs.getD k false = true then [trB bs (m.getD k nd0)] else [])
theorem trP_len (m : List Nd) (bs : List Bool) : ∀ k, (trP m bs k).length = nmF bs k
  | 0 => rfl
  | k + 1 => by
    have := trP_len m bs k
    unfold trP nmF
    rw [List.length_append, this]
    split <;> rfl
theorem trB_len (bs : List Bool) (n : Nd) : (trB bs n).1.length = n.1.length := by unfold trB; split <;> simp
theorem trB_snd (bs : List Bool) (n : Nd) : (trB bs n).2 = n.2 := by
  unfold trB
  split
  · rfl
  · rename_i h; simp at h; simp [h]

/-- Own Booleans: a place is written. -/
theorem own_putZ {w : World} {lo g k cap n : Nat} {cs : List Bool} (h : OwnZ w lo (.slice (some ⟨g, 0, none⟩) k cap) cs) (hn : n < cs.length) :
    w.cell? ⟨g, n, none⟩ = some (.bool (cs.getD n false)) ∧ w.frozen? ⟨g, n, none⟩ = false ∧ ∀ y : Bool, OwnZ (w.setCell ⟨g, n, none⟩ (.bool y)) lo (.slice (some ⟨g, 0, none⟩) k cap) (cs.set n y) ∧ w.grownBy (w.setCell ⟨g, n, none⟩ (.bool y)) (some g) := by
  obtain rfl : k = cs.length := by
    rcases h.2 with ⟨e, _⟩ | ⟨g', cap', cur, e, _⟩
    · simp at e
    · simp at e; exact e.2.1
  refine ⟨?_, World.ownsRow.frozenAt h n, fun y => ?_⟩
  · rw [World.ownsRow.cellAt h n (by omega), List.getElem?_map, List.getElem?_eq_getElem hn, List.getD_eq_getElem?_getD, List.getElem?_eq_getElem hn]
    rfl
  · have st := World.ownsRow.stored h n (.bool y)
    refine ⟨?_, st.2⟩
    have h1 := st.1
    unfold OwnZ
    rw [List.length_set]
    rw [← List.map_set] at h1
    exact h1
theorem RdZ.cellZ {w : World} {a : Option Addr} {n cap : Nat} {xs : List Bool} (h : RdZ w (.slice a n cap) xs) (i : Nat) (hi : i < xs.length) : ∃ b off, a = some ⟨b, off, none⟩ ∧ w.cell? ⟨b, off + i, none⟩ = some (.bool (xs.getD i false)) := by
  obtain ⟨a', cap', hv, h1, h2, h3⟩ := h
  simp only [Value.slice.injEq] at hv
  obtain ⟨rfl, _, rfl⟩ := hv
  rcases h3 with rfl | ⟨b, off, rfl, hlt, hc⟩
  · simp at hi
  · exact ⟨b, off, rfl, hc i hi⟩

set_option maxRecDepth 100000 in
set_option maxHeartbeats 3200000 in
theorem comeToIn_calls (p r : Value) (m : List Nd) (vs : List Int) (w : World) (h : RdP w p r m vs) (hok : okP m vs) :
    Calls Try.prog 106 #[.agg #[p, r]] w fun e w' => ∃ g, e = .returned (.slice (some ⟨g, 0, none⟩) m.length m.length) ∧ OwnZ w' w.heap.size (.slice (some ⟨g, 0, none⟩) m.length m.length) (cmP m vs) ∧ Below w.heap.size w w' := by
  have A0 := hide ((Hand.start w).box #[p, r] 43)
  have R := hide (h.below A0.out.below)
  obtain ⟨⟨ap, cp, rfl, _⟩, ⟨ar, cr, rfl, _⟩⟩ := h
  have OK := hide hok
  have h200 : m.length ≤ 200 := hok.1.1
  have h40 : vs.length ≤ 40 := hok.1.2
  clear hok
  obtain ⟨w0, hw0⟩ : ∃ w0, w0 = w.alloc (.cells #[.slice ap m.length cp, .slice ar vs.length cr] 43) := ⟨_, rfl⟩
  rw [← hw0] at A0 R
  have W0 := hide hw0
  clear hw0
  obtain ⟨e0, e1⟩ := (A0.out.atBox 0 rfl).c2
  go_enter Try.func106, Try.ntmps106
  go_upto_region 1 with fail
  rw [← W0.out]
  go_wp2_with (at_make; refine wpList_make_bols rfl _ _ rfl w0.heap.size _ _ m.length rfl rfl (by omega) (by omega) (by omega) (Nat.le_refl _) ?_)
  intro w1 hm0 hg0
  have B0 := hide ((Below.refl w0.heap.size w0).grown hg0 (Nat.le_refl _) (fun k h => by cases h))
  have M0 := hide hm0
  clear hm0 hg0 e0 e1
  obtain ⟨e0, e1⟩ := ((A0.out.step B0.out).atBox 0 rfl).c2
  go_wp2
  go_loopw [15] (fun vi wr => ∃ k : Nat, k ≤ vs.length ∧ vi = .int .i64 k ∧ OwnZ wr w0.heap.size (.slice (some ⟨w0.heap.size, 0, none⟩) m.length m.length) (cmP m (vs.take k)) ∧ Below w0.heap.size w0 wr) (fun vi _ => vs.length - (intOf vi).toNat)
  case atStart => exact ⟨0, Nat.zero_le _, rfl, by rw [List.take_zero]; exact M0.out, B0.out⟩
  case round =>
    obtain ⟨k, hk, rfl, ho, hb⟩ := hrel
    have O := hide ho
    have B := hide hb
    clear ho hb M0 B0 e0 e1
    by_cases hlt : k < vs.length
    · have hlt' : (k : Int) < (vs.length : Int) := by omega
      obtain ⟨b1, o1, rfl, cv⟩ := (R.out.2.below B.out).cellP k hlt
      have hs := OK.out.2.2 k hlt
      have CS := hide (cmP_succ m vs k hlt)
      obtain ⟨x, hx⟩ : ∃ x, x = vs.getD k 0 := ⟨_, rfl⟩
      rw [← hx] at cv hs CS
      clear hx
      by_cases h1 : x = -1
      · subst h1
        have ho := O.out
        have e : cmP m (vs.take (k + 1)) = cmP m (vs.take k) := by rw [CS.out, cmV, if_pos rfl]
        rw [← e] at ho
        have O2 := hide ho
        clear ho e
        go_wp2
        go_roundw
        case rel => exact ⟨k + 1, by omega, by go_num, O2.out, B.out⟩
        case measure => simp [intOf]; omega
      · have h1s := hs.resolve_left h1
        obtain ⟨n, rfl⟩ : ∃ n : Nat, x = (n : Int) := ⟨x.toNat, by have := h1s.1; omega⟩
        have hnm : n < m.length := by have := h1s.2.1; omega
        have hnm' : (n : Int) < (m.length : Int) := by omega
        have h1' : ¬ (n : Int) = -1 := h1
        obtain ⟨c0, f0, put⟩ := own_putZ O.out (n := n) (by rw [cmP_len]; exact hnm)
        have o2 := put true
        have bb2 := B.out.grown o2.2 B.out.size (fun j hj => by cases hj; exact Nat.le_refl _)
        obtain ⟨b2, o2', u, ks, z, rfl, hkk, hu, d0, d1⟩ := R.out.1.at n hnm
        obtain ⟨ua, uc, rfl, hul, hum⟩ := hu.slc
        have hkl : ks.length ≤ 9223372036854775807 := by unfold maxLen at hum; omega
        have hb4 := OK.out.2.1 n hnm
        rw [hkk] at hb4
        have hz := h1s.2.2
        rw [Int.toNat_natCast, hkk] at hz
        have KB : Hid (∀ i, i < ks.length → kB true m n (ks.getD i 0)) := fun i hi => (hb4.2 i hi).2 hz
        have NX : Hid (cmP m (vs.take (k + 1)) = mkS ((cmP m (vs.take k)).set n true) ks) := by show _ = _; rw [CS.out, cmV, if_neg h1, Int.toNat_natCast, hkk]
        obtain ⟨bs, hbs⟩ : ∃ bs, bs = (cmP m (vs.take k)).set n true := ⟨_, rfl⟩
        have BL : Hid (bs.length = m.length) := by show _ = _; rw [hbs, List.length_set, cmP_len]
        have oo := o2.1
        rw [← hbs] at oo NX
        obtain ⟨w2, hw2⟩ : ∃ u, u = wr.setCell ⟨w0.heap.size, n, none⟩ (.bool true) := ⟨_, rfl⟩
        rw [← hw2] at oo bb2
        have W2 := hide hw2.symm
        have O2 := hide oo
        have B2 := hide bb2
        have U2 := hide hu
        have d2 := cell_below d0 bb2
        obtain ⟨e0, e1⟩ := ((A0.out.step B2.out).atBox 0 rfl).c2
        clear put o2 bb2 hu hul hum hb4 hz hkk hbs oo hw2 hs h1s d0 d1
        go_upto_region 7 with fail
        rw [W2.out]
        go_wp2
        go_loopw [31] (fun vj wq => ∃ j : Nat, j ≤ ks.length ∧ vj = .int .i64 j ∧ OwnZ wq w0.heap.size (.slice (some ⟨w0.heap.size, 0, none⟩) m.length m.length) (mkS bs (ks.take j)) ∧ Below w0.heap.size w0 wq) (fun vj _ => ks.length - (intOf vj).toNat)
        case atStart => exact ⟨0, Nat.zero_le _, rfl, by rw [List.take_zero]; exact O2.out, B2.out⟩
        case round =>
          obtain ⟨j, hj, rfl, ho, hb⟩ := hrel
          have O3 := hide ho
          have B3 := hide hb
          clear ho hb e0 e1
          by_cases hlj : j < ks.length
          · have hlj' : (j : Int) < (ks.length : Int) := by omega
            obtain ⟨b3, o3, eu, ck⟩ := (U2.out.below B3.out).cellP j hlj
            subst eu
            have hy1 := KB.out j hlj
            have MS := hide (mkS_succ bs ks j hlj)
            obtain ⟨y, hy⟩ : ∃ y, y = ks.getD j 0 := ⟨_, rfl⟩
            rw [← hy] at ck hy1 MS
            clear hy
            by_cases hym : y = -1
            · subst hym
              have ho := O3.out
              have e : mkS bs (ks.take (j + 1)) = mkS bs (ks.take j) := by rw [MS.out, mkI, if_pos rfl]
              rw [← e] at ho
              have O4 := hide ho
              clear ho e
              go_wp2
              go_roundw
              case rel => exact ⟨j + 1, by omega, by go_num, O4.out, B3.out⟩
              case measure => simp [intOf]; omega
            · have hy2 := hy1.resolve_left hym
              obtain ⟨n2, rfl⟩ : ∃ n : Nat, y = (n : Int) := ⟨y.toNat, by have := hy2.1; omega⟩
              have hn2 : n2 < m.length := by have := hy2.2.1; omega
              have hn2' : (n2 : Int) < (m.length : Int) := by omega
              have hym' : ¬ (n2 : Int) = -1 := hym
              obtain ⟨c4, f4, put⟩ := own_putZ O3.out (n := n2) (by rw [mkS_len, BL.out]; exact hn2)
              have o4 := put true
              have e : mkS bs (ks.take (j + 1)) = (mkS bs (ks.take j)).set n2 true := by rw [MS.out, mkI, if_neg hym, Int.toNat_natCast]
              rw [← e] at o4
              have O4 := hide o4.1
              have B4 := hide (B3.out.grown o4.2 B3.out.size (fun j hj => by cases hj; exact Nat.le_refl _))
              clear put o4 e hy1 hy2
              go_wp2
              go_roundw
              case rel => exact ⟨j + 1, by omega, by go_num, O4.out, B4.out⟩
              case measure => simp [intOf]; omega
          · obtain rfl : j = ks.length := by omega
            have ho := O3.out
            rw [List.take_length, ← NX.out] at ho
            have O4 := hide ho
            clear ho
            go_wp2
            go_roundw
            case rel => exact ⟨k + 1, by omega, by go_num, O4.out, B3.out⟩
            case measure => simp [intOf]; omega
    · obtain rfl : k = vs.length := by omega
      have ho := O.out
      rw [List.take_length] at ho
      have O4 := hide ho
      clear ho
      go_wp2
      go_ret
      exact ⟨_, rfl, ownsRow_mono O4.out A0.out.below.size, (A0.out.step B.out).below⟩

/-- The new numbers of all. -/
def nmL (bs : List Bool) : List Int := (List.range bs.length).map fun k => (nmF bs k : Int)
theorem nmL_len (bs : List Bool) : (nmL bs).length = bs.length := by simp [nmL]
theorem nmL_get (bs : List Bool) (k : Nat) (h : k < bs.length) : (nmL bs).getD k 0 = (nmF bs k : Int) := by simp [nmL, List.getD_eq_getElem?_getD, h]

set_option maxRecDepth 100000 in
set_option maxHeartbeats 1600000 in
theorem numbersAnew_calls (v : Value) (bs : List Bool) (w : World) (h : RdZ w v bs) (hl : bs.length ≤ 1000) :
    Calls Try.prog 107 #[v] w fun e w' => ∃ v', e = .returned v' ∧ Own w' w.heap.size v' (nmL bs) ∧ Below w.heap.size w w' := by
  have R := hide h
  obtain ⟨a, cap, rfl, _⟩ := h
  obtain ⟨L, hL⟩ : ∃ L, L = nmL bs := ⟨_, rfl⟩
  have LL : Hid (L.length = bs.length) := by rw [hL]; exact nmL_len bs
  have LG : Hid (∀ k, k < bs.length → L.getD k 0 = (nmF bs k : Int)) := by rw [hL]; exact fun k hk => nmL_get bs k hk
  rw [← hL]
  clear hL
  go_enter Try.func107, Try.ntmps107
  go_wp2_with (at_make; refine wpList_make_ints rfl _ _ rfl w.heap.size _ _ bs.length rfl rfl (by omega) (by omega) (by omega) (Nat.le_refl _) ?_)
  intro w1 ho hg
  have O := hide ho
  have B := hide ((Below.refl w.heap.size w).grown hg (Nat.le_refl _) (fun k h => by cases h))
  clear ho hg
  go_wp2
  go_loopw [4, 12] (fun vn vi wr => ∃ k : Nat, k ≤ bs.length ∧ vi = .int .i64 k ∧ vn = .int .i64 (nmF bs k : Nat) ∧ Own wr w.heap.size (.slice (some ⟨w.heap.size, 0, none⟩) bs.length bs.length) (fil L k) ∧ Below w.heap.size w wr) (fun _ vi _ => bs.length - (intOf vi).toNat)
  case atStart => exact ⟨0, Nat.zero_le _, rfl, rfl, by rw [fil_zero, LL.out]; exact O.out, B.out⟩
  case round =>
    obtain ⟨k, hk, rfl, rfl, ho, hb⟩ := hrel
    have O1 := hide ho
    have B1 := hide hb
    clear ho hb O B
    by_cases hlt : k < bs.length
    · have hlt' : (k : Int) < (bs.length : Int) := by omega
      obtain ⟨b1, o1, rfl, cv⟩ := (R.out.below B1.out).cellZ k hlt
      have NL := nmF_le bs k
      have NS : Hid (nmF bs (k + 1) = nmF bs k + (if bs.getD k false = true then 1 else 0)) := rfl
      have ey : (fil L k).set k (nmF bs k : Int) = fil L (k + 1) := by rw [← LG.out k hlt]; exact fil_step L k (by rw [LL.out]; omega)
      have EY := hide ey
      obtain ⟨t, htt⟩ : ∃ t, t = nmF bs k := ⟨_, rfl⟩
      rw [← htt] at NL NS EY ⊢
      obtain ⟨z, hz⟩ : ∃ z, z = bs.getD k false := ⟨_, rfl⟩
      rw [← hz] at cv NS
      clear hz htt ey
      obtain ⟨c0, f0, put⟩ := own_putAt O1.out (n := k) (by rw [fil_len L k (by rw [LL.out]; omega), LL.out]; omega)
      have PY := put (t : Int)
      rw [EY.out] at PY
      have O4 := hide PY.1
      have B4 := hide (B1.out.grown PY.2 B1.out.size (fun j hj => by cases hj; exact Nat.le_refl _))
      clear put PY
      cases z with
      | true =>
        have N2 : Hid (nmF bs (k + 1) = t + 1) := NS.out
        go_wp2
        go_roundw
        case rel => exact ⟨k + 1, by omega, by go_num, by rw [N2.out]; go_num, O4.out, B4.out⟩
        case measure => simp [intOf]; omega
      | false =>
        have N2 : Hid (nmF bs (k + 1) = t) := NS.out
        go_wp2
        go_roundw
        case rel => exact ⟨k + 1, by omega, by go_num, by rw [N2.out], O4.out, B4.out⟩
        case measure => simp [intOf]; omega
    · obtain rfl : k = bs.length := by omega
      have ho := O1.out
      rw [← LL.out, fil_end, LL.out] at ho
      have O4 := hide ho
      clear ho
      go_wp2
      go_ret
      exact ⟨_, rfl, O4.out, B1.out⟩

/-- What the renaming tells, of a list of new numbers. -/
def rnL (L : List Int) (x : Int) : Int := if x = -1 then -1 else L.getD x.toNat 0
theorem rnL_is (bs : List Bool) (x : Int) (h : x = -1 ∨ (0 ≤ x ∧ x < (bs.length : Int))) : rnL (nmL bs) x = rnF bs x := by
  unfold rnL rnF
  split
  · rfl
  · rename_i hn
    have h1 := h.resolve_left hn
    rw [nmL_get bs x.toNat (by omega)]
set_option maxRecDepth 100000 in
set_option maxHeartbeats 800000 in
theorem rename_calls (u : Value) (L : List Int) (x y : Int) (B : Nat) (w : World) (hu : Rd w u L) (hB : w.cell? ⟨B, 0, none⟩ = some u) (hx : x = -1 ∨ (0 ≤ x ∧ x < (L.length : Int))) (hy : rnL L x = y) :
    Calls Try.prog 108 #[.int .i64 x, .pointer (some ⟨B, 0, none⟩)] w fun e w' => e = .returned (.int .i64 y) ∧ w = w' := by
  by_cases h1 : x = -1
  · subst h1
    obtain rfl : -1 = y := hy
    go_enter Try.func108, Try.ntmps108
    go_wp2
    go_ret
    exact ⟨rfl, rfl⟩
  · have h2 := hx.resolve_left h1
    obtain ⟨n, rfl⟩ : ∃ n : Nat, x = (n : Int) := ⟨x.toNat, by omega⟩
    have hn : n < L.length := by omega
    have hn' : (n : Int) < (L.length : Int) := by omega
    obtain ⟨a, cap, rfl, _⟩ := id hu
    obtain ⟨b, o, rfl, c⟩ := hu.cellP n hn
    have e : L.getD n 0 = y := by rw [← hy, rnL, if_neg h1, Int.toNat_natCast]
    rw [e] at c
    have h1' : ¬ (n : Int) = -1 := h1
    clear e hy hx h2 hu
    go_enter Try.func108, Try.ntmps108
    go_wp2
    go_ret
    exact ⟨rfl, rfl⟩

set_option maxRecDepth 100000 in
set_option maxHeartbeats 1600000 in
theorem eachRn_calls (v u : Value) (xs L : List Int) (B : Nat) (w : World) (h : Rd w v xs) (hu : Rd w u L) (hB : w.cell? ⟨B, 0, none⟩ = some u) (hx : ∀ i, i < xs.length → xs.getD i 0 = -1 ∨ (0 ≤ xs.getD i 0 ∧ xs.getD i 0 < (L.length : Int))) (hl : xs.length ≤ 1048576) :
    Calls Try.prog 109 #[v, .func (.func 108) #[] #[.pointer (some ⟨B, 0, none⟩)]] w fun e w' => ∃ v', e = .returned v' ∧ Own w' w.heap.size v' (xs.map (rnL L)) ∧ Below w.heap.size w w' := by
  have R := hide h
  have U := hide hu
  have HB := hide hB
  have HX := hide hx
  obtain ⟨a, cap, rfl, _⟩ := h
  obtain ⟨M, hM⟩ : ∃ M, M = xs.map (rnL L) := ⟨_, rfl⟩
  have LL : Hid (M.length = xs.length) := by show _ = _; rw [hM]; simp
  have LG : Hid (∀ k, k < xs.length → M.getD k 0 = rnL L (xs.getD k 0)) := by
    rw [hM]
    intro k hk
    simp [List.getD_eq_getElem?_getD, hk]
  rw [← hM]
  clear hM hu hB hx
  go_enter Try.func109, Try.ntmps109
  go_wp2_with (at_make; refine wpList_make_ints rfl _ _ rfl w.heap.size _ _ xs.length rfl rfl (by omega) (by omega) (by omega) (Nat.le_refl _) ?_)
  intro w1 ho hg
  have O := hide ho
  have B' := hide ((Below.refl w.heap.size w).grown hg (Nat.le_refl _) (fun k h => by cases h))
  clear ho hg
  go_wp2
  go_loopw [13] (fun vi wr => ∃ k : Nat, k ≤ xs.length ∧ vi = .int .i64 k ∧ Own wr w.heap.size (.slice (some ⟨w.heap.size, 0, none⟩) xs.length xs.length) (fil M k) ∧ Below w.heap.size w wr) (fun vi _ => xs.length - (intOf vi).toNat)
  case atStart => exact ⟨0, Nat.zero_le _, rfl, by rw [fil_zero, LL.out]; exact O.out, B'.out⟩
  case round =>
    obtain ⟨k, hk, rfl, ho, hb⟩ := hrel
    have O1 := hide ho
    have B1 := hide hb
    clear ho hb O B'
    by_cases hlt : k < xs.length
    · have hlt' : (k : Int) < (xs.length : Int) := by omega
      obtain ⟨b1, o1, rfl, cv⟩ := (R.out.below B1.out).cellP k hlt
      have HXK := hide (HX.out k hlt)
      have ey : (fil M k).set k (M.getD k 0) = fil M (k + 1) := fil_step M k (by rw [LL.out]; omega)
      rw [LG.out k hlt] at ey
      obtain ⟨x, hxx⟩ : ∃ x, x = xs.getD k 0 := ⟨_, rfl⟩
      rw [← hxx] at cv HXK ey
      obtain ⟨y, hy⟩ : ∃ y, rnL L x = y := ⟨_, rfl⟩
      rw [hy] at ey
      have HY := hide hy
      have EY := hide ey
      clear hxx hy ey
      go_wp2_with fail
      refine (rename_calls _ L x y B _ (U.out.below B1.out) (cell_below HB.out B1.out) HXK.out HY.out).mono ?_
      rintro e w3 ⟨rfl, rfl⟩
      obtain ⟨c0, f0, put⟩ := own_putAt O1.out (n := k) (by rw [fil_len M k (by rw [LL.out]; omega), LL.out]; omega)
      have PY := put y
      rw [EY.out] at PY
      have O4 := hide PY.1
      have B4 := hide (B1.out.grown PY.2 B1.out.size (fun j hj => by cases hj; exact Nat.le_refl _))
      clear put PY
      go_wp2
      go_roundw
      case rel => exact ⟨k + 1, by omega, by go_num, O4.out, B4.out⟩
      case measure => simp [intOf]; omega
    · obtain rfl : k = xs.length := by omega
      have ho := O1.out
      rw [← LL.out, fil_end, LL.out] at ho
      have O4 := hide ho
      clear ho
      go_wp2
      go_ret
      exact ⟨_, rfl, O4.out, B1.out⟩

set_option maxRecDepth 100000 in
set_option maxHeartbeats 1600000 in
theorem renamed_calls (v u : Value) (ks L ys : List Int) (z : Bool) (B : Nat) (w : World) (h : Rd w v ks) (hu : Rd w u L) (hB : w.cell? ⟨B, 0, none⟩ = some u) (hx : z = false → ∀ i, i < ks.length → ks.getD i 0 = -1 ∨ (0 ≤ ks.getD i 0 ∧ ks.getD i 0 < (L.length : Int))) (hl : ks.length ≤ 1048576) (hy : ys = if z = true then ks else ks.map (rnL L)) :
    Calls Try.prog 110 #[.agg #[v, .bool z], .func (.func 108) #[] #[.pointer (some ⟨B, 0, none⟩)]] w fun e w' => ∃ a' k', e = .returned (.agg #[.slice a' ys.length k', .bool z]) ∧ Own w' w.heap.size (.slice a' ys.length k') ys ∧ Below w.heap.size w w' := by
  have R := hide h
  have U := hide hu
  have HB := hide hB
  obtain ⟨ua, uc, rfl, _, _⟩ := h.slc
  have A0 := hide (Hand.twoN w #[.slice ua ks.length uc, .bool z] #[.slice none 0 0, .bool false] 104 104)
  have HX := hide hx
  clear h hu hB hx
  cases z with
  | true =>
    obtain rfl : ys = ks := hy
    go_enter Try.func110, Try.ntmps110
    go_wp2_with fail
    refine (copyBranch_calls _ ys true _ (R.out.below A0.out.below) hl).mono ?_
    rintro e w1 ⟨v', rfl, o, q⟩
    obtain ⟨a1, k1, rfl⟩ := row_slice o
    have A1 := hide (A0.out.add q (TInts.st _ _) ⟨o, row_top o⟩)
    clear o q A0
    have xr := A1.out.atBox 1 rfl
    obtain ⟨d0, d1⟩ := xr.c2
    have g0 := xr.frozen 0
    have g1 := xr.frozen 1
    have A2 := hide (A1.out.store2 1 rfl (.slice a1 ys.length k1) (.bool true))
    clear xr A1
    go_wp2
    exact bodyPost_ret (res_ndB rfl _ _ (w.heap.size + 1) _ _ (0, 0) rfl (A2.out.atBox 1 rfl)) rfl ⟨_, _, rfl, A2.out.wideI 0 rfl, A2.out.below⟩
  | false =>
    have hy' : ys = ks.map (rnL L) := hy
    have HX2 := hide (HX.out rfl)
    clear hy HX
    go_enter Try.func110, Try.ntmps110
    go_wp2_with fail
    refine (eachRn_calls _ _ ks L B _ (R.out.below A0.out.below) (U.out.below A0.out.below) (cell_below HB.out A0.out.below) HX2.out hl).mono ?_
    rw [← hy']
    rintro e w1 ⟨v', rfl, o, q⟩
    obtain ⟨a1, k1, rfl⟩ := row_slice o
    have A1 := hide (A0.out.add q (TInts.st _ _) ⟨o, row_top o⟩)
    clear o q A0 hy'
    have xr := A1.out.atBox 1 rfl
    obtain ⟨d0, d1⟩ := xr.c2
    have g0 := xr.frozen 0
    have g1 := xr.frozen 1
    have A2 := hide (A1.out.store2 1 rfl (.slice a1 ys.length k1) (.bool false))
    clear xr A1
    go_wp2
    exact bodyPost_ret (res_ndB rfl _ _ (w.heap.size + 1) _ _ (0, 0) rfl (A2.out.atBox 1 rfl)) rfl ⟨_, _, rfl, A2.out.wideI 0 rfl, A2.out.below⟩
end Go.Proofs.Ythmijjcddjlebaa

/-
  Tables by two places: the mathematics (places, good tables, what is put, kicked, dropped and found). No program, no condition.
-/
import Derived.Test.YtehjfjplajimfaaTbl
namespace Go.Proofs.Ytehjfjplajimfaa
open Go.RowKit
set_option linter.unusedVariables false

def fs (s k : Int) : Int := (k + s) % 11
def sn (s k : Int) : Int := (k / 11 + 3 * s) % 11
def kOk (k : Int) : Prop := 0 ≤ k ∧ k ≤ 9999
def sdOk (s : Int) : Prop := 0 ≤ s ∧ s ≤ 99
theorem fs_b (s k : Int) : 0 ≤ fs s k ∧ fs s k < 11 := by unfold fs; omega
theorem sn_b (s k : Int) : 0 ≤ sn s k ∧ sn s k < 11 := by unfold sn; omega
theorem bol_ex (p : Prop) : ∃ g : Bool, g = true ↔ p := by
  rcases Classical.em p with h | h
  · exact ⟨true, fun _ => h, fun _ => rfl⟩
  · exact ⟨false, fun e => by simp at e, fun e => absurd e h⟩
/-- A slot that may be at a place. -/
def slOk (f : Int → Int) (i : Nat) (x : Sl) : Prop := x = sl0 ∨ (x.1 = true ∧ kOk x.2.1 ∧ kOk x.2.2 ∧ f x.2.1 = (i : Int))
def rowOk (f : Int → Int) (row : List Sl) : Prop := row.length = 11 ∧ ∀ i, i < row.length → slOk f i (row.getD i sl0)
/-- The slots that are Used. -/
def us (row : List Sl) : List Sl := row.filter fun x => x.1
def ky (xs : List Sl) : List Int := xs.map fun x => x.2.1
def okT (s : Int) (ls rs : List Sl) (m : Int) : Prop := sdOk s ∧ rowOk (fs s) ls ∧ rowOk (sn s) rs ∧ ((us ls ++ us rs).length : Int) = m ∧ (ky (us ls ++ us rs)).Nodup
theorem us_app (a b : List Sl) : us (a ++ b) = us a ++ us b := by simp [us]
theorem us_len (a : List Sl) : (us a).length ≤ a.length := List.length_filter_le _ _
theorem slOk_zero {f : Int → Int} {i : Nat} {x : Sl} (h : slOk f i x) : x.1 = false ↔ x = sl0 := by
  rcases h with rfl | h
  · simp [sl0]
  · constructor
    · intro e; rw [h.1] at e; simp at e
    · rintro rfl; simp [sl0] at h
theorem mem_us {row : List Sl} {x : Sl} : x ∈ us row ↔ x ∈ row ∧ x.1 = true := by simp [us]
theorem getD_mem {row : List Sl} {i : Nat} (h : i < row.length) : row.getD i sl0 ∈ row := by
  rw [List.getD_eq_getElem?_getD, List.getElem?_eq_getElem h, Option.getD_some]
  exact List.getElem_mem h
/-- A used slot lies at its place. -/
theorem us_at {f : Int → Int} {row : List Sl} (hr : rowOk f row) {x : Sl} (hx : x ∈ us row) : row.getD (f x.2.1).toNat sl0 = x ∧ kOk x.2.1 ∧ kOk x.2.2 := by
  obtain ⟨h1, h2⟩ := mem_us.1 hx
  obtain ⟨i, hi, rfl⟩ := List.mem_iff_getElem.1 h1
  have e : row.getD i sl0 = row[i] := by rw [List.getD_eq_getElem?_getD, List.getElem?_eq_getElem hi, Option.getD_some]
  have := hr.2 i hi
  rw [e] at this
  rcases this with h | ⟨_, h3, h4, h5⟩
  · rw [h] at h2; simp [sl0] at h2
  · rw [h5, Int.toNat_natCast]
    exact ⟨e, h3, h4⟩
theorem at_us {row : List Sl} {i : Nat} (h : i < row.length) (hu : (row.getD i sl0).1 = true) : row.getD i sl0 ∈ us row := mem_us.2 ⟨getD_mem h, hu⟩

/-- A row, cut at a place. -/
theorem us_cut (row : List Sl) (p : Nat) (h : p < row.length) : us row = us (row.take p) ++ (us [row.getD p sl0] ++ us (row.drop (p + 1))) := by
  have e : row = row.take p ++ ([row.getD p sl0] ++ row.drop (p + 1)) := by
    rw [List.getD_eq_getElem?_getD, List.getElem?_eq_getElem h, Option.getD_some, List.singleton_append, ← List.drop_eq_getElem_cons h, List.take_append_drop]
  rw [← us_app, ← us_app, ← e]
theorem us_put (row : List Sl) (p : Nat) (c : Sl) (h : p < row.length) : us (row.set p c) = us (row.take p) ++ (us [c] ++ us (row.drop (p + 1))) := by
  have e : row.set p c = row.take p ++ ([c] ++ row.drop (p + 1)) := by
    rw [List.set_eq_take_append_cons_drop, if_pos h, List.singleton_append]
  rw [e, us_app, us_app]
theorem us_put_perm (row : List Sl) (p : Nat) (c : Sl) (h : p < row.length) : (us [row.getD p sl0] ++ us (row.set p c)).Perm (us [c] ++ us row) := by
  rw [us_put row p c h, us_cut row p h]
  have h1 := List.perm_append_comm_assoc (us [row.getD p sl0]) (us (row.take p)) (us [c] ++ us (row.drop (p + 1)))
  have h2 := List.perm_append_comm_assoc (us [c]) (us (row.take p)) (us [row.getD p sl0] ++ us (row.drop (p + 1)))
  refine h1.trans (List.Perm.trans ?_ h2.symm)
  exact List.Perm.append_left _ (List.perm_append_comm_assoc _ _ _)
theorem us_zero : us [sl0] = [] := rfl
theorem us_one {c : Sl} (h : c.1 = true) : us [c] = [c] := by simp [us, h]
theorem rowOk_set {f : Int → Int} {row : List Sl} (hr : rowOk f row) (p : Nat) (c : Sl) (hc : slOk f p c) : rowOk f (row.set p c) := by
  refine ⟨by rw [List.length_set]; exact hr.1, fun i hi => ?_⟩
  rw [List.length_set] at hi
  by_cases hp : p < row.length
  · rw [getD_set _ _ _ _ _ hp]
    by_cases e : i = p
    · subst e; rw [if_pos rfl]; exact hc
    · rw [if_neg e]; exact hr.2 i hi
  · rw [List.set_eq_of_length_le (by omega)]
    exact hr.2 i hi

/-- What comes goes to its place in a row, what was there to its other one, and so on. -/
def kick (s : Int) : Nat → Nat → List Sl → List Sl → Sl → Option (List Sl × List Sl × Nat)
  | 0, _, _, _, _ => none
  | f + 1, n, ls, rs, c =>
    if n % 2 = 0 then
      (if ls.getD (fs s c.2.1).toNat sl0 = sl0 then some (ls.set (fs s c.2.1).toNat c, rs, n) else kick s f (n + 1) (ls.set (fs s c.2.1).toNat c) rs (ls.getD (fs s c.2.1).toNat sl0))
    else
      (if rs.getD (sn s c.2.1).toNat sl0 = sl0 then some (ls, rs.set (sn s c.2.1).toNat c, n) else kick s f (n + 1) ls (rs.set (sn s c.2.1).toNat c) (rs.getD (sn s c.2.1).toNat sl0))
theorem kick_ok (s : Int) : ∀ (f n : Nat) (ls rs : List Sl) (c : Sl) (L R : List Sl) (N : Nat), rowOk (fs s) ls → rowOk (sn s) rs → c.1 = true → kOk c.2.1 → kOk c.2.2 → kick s f n ls rs c = some (L, R, N) →
    rowOk (fs s) L ∧ rowOk (sn s) R ∧ (us L ++ us R).Perm (c :: (us ls ++ us rs)) ∧ n ≤ N ∧ N < n + f
  | 0, n, ls, rs, c, L, R, N, hl, hr, h1, h2, h3, h => by simp [kick] at h
  | f + 1, n, ls, rs, c, L, R, N, hl, hr, h1, h2, h3, h => by
    obtain ⟨a1, a2⟩ := fs_b s c.2.1
    obtain ⟨b1, b2⟩ := sn_b s c.2.1
    have pl : (fs s c.2.1).toNat < ls.length := by rw [hl.1]; omega
    have pr : (sn s c.2.1).toNat < rs.length := by rw [hr.1]; omega
    have ol : rowOk (fs s) (ls.set (fs s c.2.1).toNat c) := rowOk_set hl _ _ (.inr ⟨h1, h2, h3, by omega⟩)
    have or' : rowOk (sn s) (rs.set (sn s c.2.1).toNat c) := rowOk_set hr _ _ (.inr ⟨h1, h2, h3, by omega⟩)
    have ql := us_put_perm ls _ c pl
    have qr := us_put_perm rs _ c pr
    rw [us_one h1] at ql qr
    unfold kick at h
    by_cases hn : n % 2 = 0
    · rw [if_pos hn] at h
      by_cases hz : ls.getD (fs s c.2.1).toNat sl0 = sl0
      · rw [if_pos hz] at h
        simp only [Option.some.injEq, Prod.mk.injEq] at h
        obtain ⟨rfl, rfl, rfl⟩ := h
        rw [hz, us_zero, List.nil_append] at ql
        exact ⟨ol, hr, by simpa using ql.append_right (us rs), Nat.le_refl _, by omega⟩
      · rw [if_neg hz] at h
        have hx : slOk (fs s) (fs s c.2.1).toNat (ls.getD (fs s c.2.1).toNat sl0) := hl.2 _ pl
        rcases hx with hx | ⟨x1, x2, x3, x4⟩
        · exact absurd hx hz
        obtain ⟨k1, k2, k3, k4, k5⟩ := kick_ok s f (n + 1) _ _ _ L R N ol hr x1 x2 x3 h
        refine ⟨k1, k2, k3.trans ?_, by omega, by omega⟩
        rw [us_one x1] at ql
        simpa using ql.append_right (us rs)
    · rw [if_neg hn] at h
      by_cases hz : rs.getD (sn s c.2.1).toNat sl0 = sl0
      · rw [if_pos hz] at h
        simp only [Option.some.injEq, Prod.mk.injEq] at h
        obtain ⟨rfl, rfl, rfl⟩ := h
        rw [hz, us_zero, List.nil_append] at qr
        refine ⟨hl, or', ?_, Nat.le_refl _, by omega⟩
        refine (qr.append_left (us ls)).trans ?_
        simp
      · rw [if_neg hz] at h
        have hx : slOk (sn s) (sn s c.2.1).toNat (rs.getD (sn s c.2.1).toNat sl0) := hr.2 _ pr
        rcases hx with hx | ⟨x1, x2, x3, x4⟩
        · exact absurd hx hz
        obtain ⟨k1, k2, k3, k4, k5⟩ := kick_ok s f (n + 1) _ _ _ L R N hl or' x1 x2 x3 h
        refine ⟨k1, k2, k3.trans ?_, by omega, by omega⟩
        rw [us_one x1] at qr
        have e1 := (List.perm_middle (a := rs.getD (sn s c.2.1).toNat sl0) (l₁ := us ls) (l₂ := us (rs.set (sn s c.2.1).toNat c))).symm
        refine e1.trans ((List.Perm.append_left (us ls) ?_).trans (List.perm_middle (a := c) (l₁ := us ls) (l₂ := us rs)))
        simpa using qr

/-- A key is at its first place, at its second one. -/
def isL (s : Int) (ls : List Sl) (k : Int) : Prop := (ls.getD (fs s k).toNat sl0).1 = true ∧ (ls.getD (fs s k).toNat sl0).2.1 = k
def isR (s : Int) (rs : List Sl) (k : Int) : Prop := (rs.getD (sn s k).toNat sl0).1 = true ∧ (rs.getD (sn s k).toNat sl0).2.1 = k
theorem isL_dec (s : Int) (ls : List Sl) (k : Int) : isL s ls k ∨ ¬ isL s ls k := Classical.em _
theorem isL_iff {s : Int} {ls : List Sl} (h : rowOk (fs s) ls) (k : Int) : isL s ls k ↔ k ∈ ky (us ls) := by
  have hb := fs_b s k
  constructor
  · rintro ⟨h1, h2⟩
    exact List.mem_map.2 ⟨_, at_us (by rw [h.1]; omega) h1, h2⟩
  · intro hk
    obtain ⟨x, hx, rfl⟩ := List.mem_map.1 hk
    obtain ⟨e, _⟩ := us_at h hx
    unfold isL
    rw [e]
    exact ⟨(mem_us.1 hx).2, rfl⟩
theorem isR_iff {s : Int} {rs : List Sl} (h : rowOk (sn s) rs) (k : Int) : isR s rs k ↔ k ∈ ky (us rs) := by
  have hb := sn_b s k
  constructor
  · rintro ⟨h1, h2⟩
    exact List.mem_map.2 ⟨_, at_us (by rw [h.1]; omega) h1, h2⟩
  · intro hk
    obtain ⟨x, hx, rfl⟩ := List.mem_map.1 hk
    obtain ⟨e, _⟩ := us_at h hx
    unfold isR
    rw [e]
    exact ⟨(mem_us.1 hx).2, rfl⟩
theorem ky_app (a b : List Sl) : ky (a ++ b) = ky a ++ ky b := by simp [ky]

/-- What comes of a put: both rows, how many were moved, how many more keys there are. -/
def PutTo (s : Int) (ls rs : List Sl) (k v : Int) (L R : List Sl) (n a : Int) : Prop :=
  (isL s ls k ∧ L = ls.set (fs s k).toNat (true, k, v) ∧ R = rs ∧ n = 0 ∧ a = 0) ∨
  (¬ isL s ls k ∧ isR s rs k ∧ L = ls ∧ R = rs.set (sn s k).toNat (true, k, v) ∧ n = 0 ∧ a = 0) ∨
  (¬ isL s ls k ∧ ¬ isR s rs k ∧ a = 1 ∧ ∃ N : Nat, n = N ∧ kick s 25 0 ls rs (true, k, v) = some (L, R, N))
/-- There is no room. -/
def NoRoom (s : Int) (ls rs : List Sl) (k v : Int) : Prop := ¬ isL s ls k ∧ ¬ isR s rs k ∧ kick s 25 0 ls rs (true, k, v) = none
theorem put_or (s : Int) (ls rs : List Sl) (k v : Int) : (∃ L R n a, PutTo s ls rs k v L R n a) ∨ NoRoom s ls rs k v := by
  rcases Classical.em (isL s ls k) with h | h
  · exact .inl ⟨_, _, _, _, .inl ⟨h, rfl, rfl, rfl, rfl⟩⟩
  rcases Classical.em (isR s rs k) with h' | h'
  · exact .inl ⟨_, _, _, _, .inr (.inl ⟨h, h', rfl, rfl, rfl, rfl⟩)⟩
  cases hk : kick s 25 0 ls rs (true, k, v) with
  | none => exact .inr ⟨h, h', hk⟩
  | some x =>
    obtain ⟨L, R, N⟩ := x
    exact .inl ⟨L, R, N, 1, .inr (.inr ⟨h, h', rfl, N, rfl, hk⟩)⟩
theorem PutTo.uniq {s : Int} {ls rs : List Sl} {k v : Int} {L R L' R' : List Sl} {n a n' a' : Int} (h : PutTo s ls rs k v L R n a) (h' : PutTo s ls rs k v L' R' n' a') : L = L' ∧ R = R' ∧ n = n' ∧ a = a' := by
  rcases h with ⟨h1, rfl, rfl, rfl, rfl⟩ | ⟨h1, h2, rfl, rfl, rfl, rfl⟩ | ⟨h1, h2, rfl, N, rfl, h3⟩
  · rcases h' with ⟨g1, rfl, rfl, rfl, rfl⟩ | ⟨g1, _⟩ | ⟨g1, _⟩
    · exact ⟨rfl, rfl, rfl, rfl⟩
    · exact absurd h1 g1
    · exact absurd h1 g1
  · rcases h' with ⟨g1, _⟩ | ⟨g1, g2, rfl, rfl, rfl, rfl⟩ | ⟨g1, g2, _⟩
    · exact absurd g1 h1
    · exact ⟨rfl, rfl, rfl, rfl⟩
    · exact absurd h2 g2
  · rcases h' with ⟨g1, _⟩ | ⟨g1, g2, _⟩ | ⟨g1, g2, rfl, M, rfl, g3⟩
    · exact absurd g1 h1
    · exact absurd g2 h2
    · rw [h3] at g3
      simp only [Option.some.injEq, Prod.mk.injEq] at g3
      obtain ⟨rfl, rfl, rfl⟩ := g3
      exact ⟨rfl, rfl, rfl, rfl⟩
theorem PutTo.room {s : Int} {ls rs : List Sl} {k v : Int} {L R : List Sl} {n a : Int} (h : PutTo s ls rs k v L R n a) : ¬ NoRoom s ls rs k v := by
  rintro ⟨g1, g2, g3⟩
  rcases h with ⟨h1, _⟩ | ⟨_, h2, _⟩ | ⟨_, _, _, N, _, h3⟩
  · exact g1 h1
  · exact g2 h2
  · rw [g3] at h3; simp at h3
theorem ky_perm {a b : List Sl} (h : a.Perm b) : (ky a).Perm (ky b) := h.map _
theorem ky_same {row : List Sl} {p : Nat} {c : Sl} (h : p < row.length) (hu : (row.getD p sl0).1 = true) (hc : c.1 = true) (hk : (row.getD p sl0).2.1 = c.2.1) : ky (us (row.set p c)) = ky (us row) := by
  rw [us_put row p c h, us_cut row p h, us_one hc, us_one hu, ky_app, ky_app, ky_app, ky_app]
  simp only [ky, List.map_cons, hk]
theorem ky_len (a : List Sl) : (ky a).length = a.length := by simp [ky]
theorem PutTo.ok {s m : Int} {ls rs : List Sl} {k v : Int} {L R : List Sl} {n a : Int} (h : PutTo s ls rs k v L R n a) (ht : okT s ls rs m) (hk : kOk k) (hv : kOk v) : okT s L R (m + a) := by
  obtain ⟨t1, t2, t3, t4, t5⟩ := ht
  have bl := fs_b s k
  have br := sn_b s k
  have pl : (fs s k).toNat < ls.length := by rw [t2.1]; omega
  have pr : (sn s k).toNat < rs.length := by rw [t3.1]; omega
  rcases h with ⟨h1, rfl, rfl, rfl, rfl⟩ | ⟨h1, h2, rfl, rfl, rfl, rfl⟩ | ⟨h1, h2, rfl, N, rfl, h3⟩
  · have e := ky_same (c := (true, k, v)) pl h1.1 rfl h1.2
    have el : (us (ls.set (fs s k).toNat (true, k, v))).length = (us ls).length := by rw [← ky_len, e, ky_len]
    refine ⟨t1, rowOk_set t2 _ _ (.inr ⟨rfl, hk, hv, by show fs s k = _; omega⟩), t3, ?_, ?_⟩
    · rw [List.length_append, el, ← t4, List.length_append]; omega
    · rw [ky_app, e, ← ky_app]; exact t5
  · have e := ky_same (c := (true, k, v)) pr h2.1 rfl h2.2
    have el : (us (rs.set (sn s k).toNat (true, k, v))).length = (us rs).length := by rw [← ky_len, e, ky_len]
    refine ⟨t1, t2, rowOk_set t3 _ _ (.inr ⟨rfl, hk, hv, by show sn s k = _; omega⟩), ?_, ?_⟩
    · rw [List.length_append, el, ← t4, List.length_append]; omega
    · rw [ky_app, e, ← ky_app]; exact t5
  · obtain ⟨k1, k2, k3, k4, k5⟩ := kick_ok s 25 0 ls rs (true, k, v) L R N t2 t3 rfl hk hv h3
    refine ⟨t1, k1, k2, ?_, ?_⟩
    · rw [k3.length_eq, List.length_cons, ← t4]; omega
    · have := ky_perm k3
      rw [this.nodup_iff]
      show (k :: ky (us ls ++ us rs)).Nodup
      rw [List.nodup_cons]
      refine ⟨?_, t5⟩
      rw [ky_app, List.mem_append]
      rintro (h | h)
      · exact h1 ((isL_iff t2 k).2 h)
      · exact h2 ((isR_iff t3 k).2 h)

/-- What comes of a drop. -/
def DropTo (s : Int) (ls rs : List Sl) (k : Int) (L R : List Sl) : Prop :=
  (isL s ls k ∧ L = ls.set (fs s k).toNat sl0 ∧ R = rs) ∨ (¬ isL s ls k ∧ isR s rs k ∧ L = ls ∧ R = rs.set (sn s k).toNat sl0)
def NotIn (s : Int) (ls rs : List Sl) (k : Int) : Prop := ¬ isL s ls k ∧ ¬ isR s rs k
theorem drop_or (s : Int) (ls rs : List Sl) (k : Int) : (∃ L R, DropTo s ls rs k L R) ∨ NotIn s ls rs k := by
  rcases Classical.em (isL s ls k) with h | h
  · exact .inl ⟨_, _, .inl ⟨h, rfl, rfl⟩⟩
  rcases Classical.em (isR s rs k) with h' | h'
  · exact .inl ⟨_, _, .inr ⟨h, h', rfl, rfl⟩⟩
  · exact .inr ⟨h, h'⟩
theorem DropTo.uniq {s : Int} {ls rs : List Sl} {k : Int} {L R L' R' : List Sl} (h : DropTo s ls rs k L R) (h' : DropTo s ls rs k L' R') : L = L' ∧ R = R' := by
  rcases h with ⟨h1, rfl, rfl⟩ | ⟨h1, h2, rfl, rfl⟩
  · rcases h' with ⟨g1, rfl, rfl⟩ | ⟨g1, _⟩
    · exact ⟨rfl, rfl⟩
    · exact absurd h1 g1
  · rcases h' with ⟨g1, _⟩ | ⟨g1, g2, rfl, rfl⟩
    · exact absurd g1 h1
    · exact ⟨rfl, rfl⟩
theorem DropTo.isIn {s : Int} {ls rs : List Sl} {k : Int} {L R : List Sl} (h : DropTo s ls rs k L R) : ¬ NotIn s ls rs k := by
  rintro ⟨g1, g2⟩
  rcases h with ⟨h1, _⟩ | ⟨_, h2, _⟩
  · exact g1 h1
  · exact g2 h2
theorem DropTo.ok {s m : Int} {ls rs : List Sl} {k : Int} {L R : List Sl} (h : DropTo s ls rs k L R) (ht : okT s ls rs m) : okT s L R (m - 1) := by
  obtain ⟨t1, t2, t3, t4, t5⟩ := ht
  have bl := fs_b s k
  have br := sn_b s k
  have pl : (fs s k).toNat < ls.length := by rw [t2.1]; omega
  have pr : (sn s k).toNat < rs.length := by rw [t3.1]; omega
  rw [List.length_append] at t4
  rcases h with ⟨h1, rfl, rfl⟩ | ⟨h1, h2, rfl, rfl⟩
  · have q := us_put_perm ls _ sl0 pl
    rw [us_one h1.1, us_zero, List.nil_append] at q
    have ql := q.length_eq
    have qk := ky_perm (q.append_right (us R))
    refine ⟨t1, rowOk_set t2 _ _ (.inl rfl), t3, ?_, ?_⟩
    · rw [List.length_append]
      simp at ql
      omega
    · have := (qk.nodup_iff).2 t5
      simp only [List.cons_append, ky, List.map_cons, List.nodup_cons] at this
      exact this.2
  · have q := us_put_perm rs _ sl0 pr
    rw [us_one h2.1, us_zero, List.nil_append] at q
    have ql := q.length_eq
    have qk := ky_perm ((List.perm_middle (a := rs.getD (sn s k).toNat sl0) (l₁ := us L) (l₂ := us (rs.set (sn s k).toNat sl0))).symm.trans (q.append_left (us L)))
    refine ⟨t1, t2, rowOk_set t3 _ _ (.inl rfl), ?_, ?_⟩
    · rw [List.length_append]
      simp at ql
      omega
    · have := (qk.nodup_iff).2 t5
      simp only [ky, List.map_cons, List.nodup_cons] at this
      exact this.2
theorem okT_new (s : Int) (h : sdOk s) : okT s (List.replicate 11 sl0) (List.replicate 11 sl0) 0 := by
  have hr : ∀ f : Int → Int, rowOk f (List.replicate 11 sl0) := fun f => ⟨by simp, fun i hi => .inl (by
    rw [List.getD_eq_getElem?_getD, List.getElem?_replicate]
    split <;> rfl)⟩
  exact ⟨h, hr _, hr _, rfl, by simp [us, ky, sl0, List.replicate]⟩

/-- Keys, put one after the other into a rising list. -/
def kyF (acc xs : List Int) : List Int := xs.foldl (fun a k => putS k a) acc
theorem putS_mem (n : Int) : ∀ (xs : List Int) (y : Int), y ∈ putS n xs ↔ y = n ∨ y ∈ xs
  | [], y => by simp [putS]
  | x :: xs, y => by
    unfold putS
    split
    · simp only [List.mem_cons, putS_mem n xs y]
      constructor
      · rintro (h | h | h)
        · exact .inr (.inl h)
        · exact .inl h
        · exact .inr (.inr h)
      · rintro (h | h | h)
        · exact .inr (.inl h)
        · exact .inl h
        · exact .inr (.inr h)
    · split
      · rename_i h1 h2
        subst h2
        simp
      · simp
theorem putS_rising (n : Int) : ∀ (xs : List Int), xs.Pairwise (· < ·) → (putS n xs).Pairwise (· < ·)
  | [], h => by simp [putS]
  | x :: xs, h => by
    rw [List.pairwise_cons] at h
    unfold putS
    split
    · rename_i h1
      rw [List.pairwise_cons]
      refine ⟨fun y hy => ?_, putS_rising n xs h.2⟩
      rcases (putS_mem n xs y).1 hy with rfl | hy
      · exact h1
      · exact h.1 y hy
    · split
      · rw [List.pairwise_cons]; exact h
      · rename_i h1 h2
        rw [List.pairwise_cons, List.pairwise_cons]
        refine ⟨fun y hy => ?_, h⟩
        rcases List.mem_cons.1 hy with rfl | hy
        · omega
        · have := h.1 y hy; omega
theorem putS_length_in (n : Int) : ∀ (xs : List Int), xs.Pairwise (· < ·) → n ∈ xs → (putS n xs).length = xs.length
  | [], _, h => by simp at h
  | x :: xs, hp, h => by
    rw [List.pairwise_cons] at hp
    unfold putS
    split
    · rename_i h1
      rcases List.mem_cons.1 h with rfl | h
      · omega
      · simp [putS_length_in n xs hp.2 h]
    · split
      · rfl
      · rename_i h1 h2
        rcases List.mem_cons.1 h with rfl | h
        · exact absurd rfl h2
        · have := hp.1 n h; omega
theorem putS_length_out (n : Int) : ∀ (xs : List Int), n ∉ xs → (putS n xs).length = xs.length + 1
  | [], _ => by simp [putS]
  | x :: xs, h => by
    have h1 : n ≠ x := fun e => h (by simp [e])
    have h2 : n ∉ xs := fun e => h (by simp [e])
    unfold putS
    split
    · simp [putS_length_out n xs h2]
    · rw [if_neg (fun e => h1 e.symm)]; simp
theorem kyF_rising : ∀ (xs acc : List Int), acc.Pairwise (· < ·) → (kyF acc xs).Pairwise (· < ·)
  | [], acc, h => h
  | x :: xs, acc, h => kyF_rising xs (putS x acc) (putS_rising x acc h)
theorem kyF_mem : ∀ (xs acc : List Int) (y : Int), y ∈ kyF acc xs ↔ y ∈ acc ∨ y ∈ xs
  | [], acc, y => by simp [kyF]
  | x :: xs, acc, y => by
    have := kyF_mem xs (putS x acc) y
    show y ∈ kyF (putS x acc) xs ↔ _
    rw [this, putS_mem, List.mem_cons]
    constructor
    · rintro ((h | h) | h)
      · exact .inr (.inl h)
      · exact .inl h
      · exact .inr (.inr h)
    · rintro (h | h | h)
      · exact .inl (.inr h)
      · exact .inl (.inl h)
      · exact .inr h
theorem putS_length_le (n : Int) (xs : List Int) : (putS n xs).length ≤ xs.length + 1 := by
  induction xs with
  | nil => simp [putS]
  | cons x xs ih =>
    unfold putS
    split
    · simp; omega
    · split <;> simp
theorem kyF_le : ∀ (xs acc : List Int), (kyF acc xs).length ≤ acc.length + xs.length
  | [], acc => by simp [kyF]
  | x :: xs, acc => by
    have h1 := kyF_le xs (putS x acc)
    have h2 := putS_length_le x acc
    show (kyF (putS x acc) xs).length ≤ _
    simp only [List.length_cons]
    omega
theorem kyF_len : ∀ (xs acc : List Int), acc.Pairwise (· < ·) → ((kyF acc xs).length = acc.length + xs.length ↔ xs.Nodup ∧ ∀ y ∈ xs, y ∉ acc)
  | [], acc, h => by simp [kyF]
  | x :: xs, acc, h => by
    have ih := kyF_len xs (putS x acc) (putS_rising x acc h)
    have hle := kyF_le xs (putS x acc)
    show (kyF (putS x acc) xs).length = _ ↔ _
    rw [List.length_cons, List.nodup_cons]
    by_cases hx : x ∈ acc
    · have h1 := putS_length_in x acc h hx
      constructor
      · intro e; omega
      · rintro ⟨_, h2⟩; exact absurd hx (h2 x (by simp))
    · have h1 := putS_length_out x acc hx
      rw [h1] at ih
      constructor
      · intro e
        obtain ⟨i1, i2⟩ := ih.1 (by omega)
        refine ⟨⟨fun hm => i2 x hm ((putS_mem x acc x).2 (.inl rfl)), i1⟩, fun y hy => ?_⟩
        rcases List.mem_cons.1 hy with rfl | hy
        · exact hx
        · exact fun h' => i2 y hy ((putS_mem x acc y).2 (.inr h'))
      · rintro ⟨⟨i1, i2⟩, i3⟩
        have := ih.2 ⟨i2, fun y hy h' => ?_⟩
        · omega
        · rcases (putS_mem x acc y).1 h' with rfl | h'
          · exact i1 hy
          · exact i3 y (by simp [hy]) h'
/-- Two rising lists with the same members are one. -/
theorem rising_ext : ∀ (a b : List Int), a.Pairwise (· < ·) → b.Pairwise (· < ·) → (∀ x, x ∈ a ↔ x ∈ b) → a = b
  | [], [], _, _, _ => rfl
  | [], y :: b, _, _, h => by have := (h y).2 (by simp); simp at this
  | x :: a, [], _, _, h => by have := (h x).1 (by simp); simp at this
  | x :: a, y :: b, ha, hb, h => by
    rw [List.pairwise_cons] at ha hb
    have e : x = y := by
      rcases List.mem_cons.1 ((h x).1 (by simp)) with e | e
      · exact e
      rcases List.mem_cons.1 ((h y).2 (by simp)) with e' | e'
      · exact e'.symm
      have := ha.1 y e'
      have := hb.1 x e
      omega
    subst e
    rw [rising_ext a b ha.2 hb.2 fun z => ?_]
    constructor
    · intro hz
      rcases List.mem_cons.1 ((h z).1 (by simp [hz])) with e | e
      · subst e; have := ha.1 z hz; omega
      · exact e
    · intro hz
      rcases List.mem_cons.1 ((h z).2 (by simp [hz])) with e | e
      · subst e; have := hb.1 z hz; omega
      · exact e
/-- The keys, rising. -/
def kyS (xs : List Int) : List Int := kyF [] xs
theorem kyS_len (xs : List Int) : (kyS xs).length = xs.length ↔ xs.Nodup := by
  have := kyF_len xs [] List.Pairwise.nil
  simp only [List.length_nil, Nat.zero_add] at this
  unfold kyS
  rw [this]
  constructor
  · exact fun h => h.1
  · exact fun h => ⟨h, fun y _ => by simp⟩
/-- Slots by rising keys. -/
def Rising (ds : List Sl) : Prop := ds.Pairwise fun a b => ¬ b.2.1 < a.2.1
theorem rising_keys {ds xs : List Sl} (hp : ds.Perm xs) (hs : Rising ds) : (ky ds).Pairwise (· < ·) ↔ (ky xs).Nodup := by
  have h1 : (ky ds).Pairwise (· ≤ ·) := List.Pairwise.map _ (fun a b h => by omega) hs
  rw [← (ky_perm hp).nodup_iff]
  constructor
  · intro h; exact h.imp (fun h => by omega)
  · intro h
    refine (h1.and h).imp (fun h => ?_)
    have h2 := h.1
    have h3 : _ ≠ _ := h.2
    omega
theorem rising_kyS {ds xs : List Sl} (hp : ds.Perm xs) (hs : Rising ds) (hn : (ky xs).Nodup) : ky ds = kyS (ky xs) := by
  refine rising_ext _ _ ((rising_keys hp hs).2 hn) (kyF_rising _ _ List.Pairwise.nil) fun x => ?_
  unfold kyS
  rw [kyF_mem]
  simp only [List.not_mem_nil, false_or]
  exact (ky_perm hp).mem_iff
/-- A key's Value. -/
theorem find_val {s m : Int} {ls rs : List Sl} (h : okT s ls rs m) {x : Sl} (hx : x ∈ us ls ++ us rs) :
    kOk x.2.1 ∧ kOk x.2.2 ∧ ((isL s ls x.2.1 ∧ (ls.getD (fs s x.2.1).toNat sl0).2.2 = x.2.2) ∨ (¬ isL s ls x.2.1 ∧ isR s rs x.2.1 ∧ (rs.getD (sn s x.2.1).toNat sl0).2.2 = x.2.2)) := by
  obtain ⟨t1, t2, t3, t4, t5⟩ := h
  rcases List.mem_append.1 hx with h | h
  · obtain ⟨e, k1, k2⟩ := us_at t2 h
    refine ⟨k1, k2, .inl ⟨?_, by rw [e]⟩⟩
    unfold isL
    rw [e]
    exact ⟨(mem_us.1 h).2, rfl⟩
  · obtain ⟨e, k1, k2⟩ := us_at t3 h
    refine ⟨k1, k2, .inr ⟨fun hl => ?_, ?_, by rw [e]⟩⟩
    · rw [isL_iff t2] at hl
      rw [ky_app, List.nodup_append] at t5
      exact t5.2.2 _ hl _ (List.mem_map.2 ⟨x, h, rfl⟩) rfl
    · unfold isR
      rw [e]
      exact ⟨(mem_us.1 h).2, rfl⟩
end Go.Proofs.Ytehjfjplajimfaa

/-
  KeysIn and FindKey of the program and of the model, call by call. Each contract says what it asks.
-/
import Derived.Test.YtehjfjplajimfaaTbw
namespace Go.Proofs.Ytehjfjplajimfaa
open Go.RowKit
set_option linter.unusedVariables false

theorem own_as {w : World} {lo : Nat} {v : Value} {xs ys : List Int} (h : Own w lo v xs) (e : xs = ys) : Own w lo v ys := e ▸ h
theorem own_nil (w : World) (lo : Nat) : Own w lo (.slice none 0 0) [] := World.ownsRow_nil _ _ _ _
/-- Where a key is found: in the first row, in the second one, in none. -/
def FdTo (s : Int) (ls rs : List Sl) (k : Int) (y : Int) (ok : Bool) : Prop :=
  (isL s ls k ∧ y = (ls.getD (fs s k).toNat sl0).2.2 ∧ ok = true) ∨ (¬ isL s ls k ∧ isR s rs k ∧ y = (rs.getD (sn s k).toNat sl0).2.2 ∧ ok = true) ∨ (¬ isL s ls k ∧ ¬ isR s rs k ∧ y = 0 ∧ ok = false)
def FdAt (s m : Int) (ls rs : List Sl) (k : Int) (y : Int) (ok : Bool) : Prop := (okT s ls rs m ∧ kOk k ∧ FdTo s ls rs k y ok) ∨ (¬ (okT s ls rs m ∧ kOk k) ∧ y = 0 ∧ ok = false)
theorem fd_ex (s m : Int) (ls rs : List Sl) (k : Int) : ∃ y ok, FdAt s m ls rs k y ok := by
  rcases Classical.em (okT s ls rs m ∧ kOk k) with h | h
  · rcases Classical.em (isL s ls k) with h1 | h1
    · exact ⟨_, _, .inl ⟨h.1, h.2, .inl ⟨h1, rfl, rfl⟩⟩⟩
    · rcases Classical.em (isR s rs k) with h2 | h2
      · exact ⟨_, _, .inl ⟨h.1, h.2, .inr (.inl ⟨h1, h2, rfl, rfl⟩)⟩⟩
      · exact ⟨_, _, .inl ⟨h.1, h.2, .inr (.inr ⟨h1, h2, rfl, rfl⟩)⟩⟩
  · exact ⟨_, _, .inr ⟨h, rfl, rfl⟩⟩

/-- Which row a key is in. -/
def at12 (t u : Bool) (s : Int) (k : Int) : Int := if t = true then fs s k else if u = true then sn s k else 0
theorem fsN (s k : Int) : ∃ p : Nat, fs s k = (p : Int) ∧ p < 11 := ⟨(fs s k).toNat, by have := fs_b s k; omega, by have := fs_b s k; omega⟩
theorem snN (s k : Int) : ∃ p : Nat, sn s k = (p : Int) ∧ p < 11 := ⟨(sn s k).toNat, by have := sn_b s k; omega, by have := sn_b s k; omega⟩
set_option maxRecDepth 100000 in
set_option maxHeartbeats 3200000 in
theorem sl12At_calls (s m k : Int) (l r : Value) (ls rs : List Sl) (t u : Bool) (w : World) (hl : RdS w l ls) (hr : RdS w r rs) (hs : sdOk s) (hk : kOk k) (h1 : ls.length = 11) (h2 : rs.length = 11) (ht : t = true ↔ isL s ls k) (hu : u = true ↔ isR s rs k) :
    Calls Try.prog 92 #[.agg #[.int .i64 s, l, r, .int .i64 m], .int .i64 k] w fun e w' => e = .returned (.tuple #[.int .i64 (at12 t u s k), .bool (!t && u), .bool (t || u)]) ∧ Below w.heap.size w w' := by
  obtain ⟨al, cl, rfl, _, _⟩ := hl.sl
  obtain ⟨ar, cr, rfl, _, _⟩ := hr.sl
  have A0 := hide ((Hand.start w).box #[.int .i64 s, .slice al ls.length cl, .slice ar rs.length cr, .int .i64 m] 28)
  have RL := hide hl
  have RR := hide hr
  have HS := hide hs
  have HK := hide hk
  clear hl hr hs hk
  obtain ⟨p, hp, hp2⟩ := fsN s k
  obtain ⟨q, hq, hq2⟩ := snN s k
  have F1 := hide (fun W => sl12First_calls s k W HS.out HK.out)
  have F2 := hide (fun W => sl12Second_calls s k W HS.out HK.out)
  unfold isL at ht
  unfold isR at hu
  unfold at12
  rw [hp] at F1 ht ⊢
  rw [hq] at F2 hu ⊢
  rw [Int.toNat_natCast] at ht hu
  obtain ⟨b1, o1, u1, k1, z1, rfl, x1, _, c0, c1, c2⟩ := (RL.out.below A0.out.below).at p (by omega)
  obtain ⟨b2, o2, u2, k2, z2, rfl, x2, _, d0, d1, d2⟩ := (RR.out.below A0.out.below).at q (by omega)
  rw [x1] at ht
  rw [x2] at hu
  simp only at ht hu
  have hpl : (p : Int) < (ls.length : Int) := by omega
  have hql : (q : Int) < (rs.length : Int) := by omega
  have X0 := hide (A0.out.atBox 0 rfl)
  have HT := hide ht
  have HU := hide hu
  clear ht hu hp hq x1 x2 h1 h2
  obtain ⟨w0, hw0⟩ : ∃ w0, w0 = w.alloc (.cells #[.int .i64 s, .slice (some ⟨b1, o1, none⟩) ls.length cl, .slice (some ⟨b2, o2, none⟩) rs.length cr, .int .i64 m] 28) := ⟨_, rfl⟩
  have bx := below_box w0 (.cells #[.bool u1, .int .i64 k1, .int .i64 z1] 81)
  have by' := below_box (w0.alloc (.cells #[.bool u1, .int .i64 k1, .int .i64 z1] 81)) (.cells #[.bool u2, .int .i64 k2, .int .i64 z2] 81)
  rw [← hw0] at c0 c1 c2 d0 d1 d2 X0 A0
  have dd0 := cell_below d0 bx
  have dd1 := cell_below d1 bx
  have dd2 := cell_below d2 bx
  obtain ⟨y0, y1, y2, y3⟩ := X0.out.c4
  obtain ⟨yy0, yy1, yy2, yy3⟩ := (X0.out.below bx).c4
  have B1 := hide (A0.out.below.trans (bx.mono A0.out.below.size))
  have B2 := hide (B1.out.trans (by'.mono B1.out.size))
  clear bx by'
  cases t with
  | true =>
    obtain ⟨rfl, rfl⟩ := HT.out.1 rfl
    clear HT HU
    go_enter Try.func92, Try.ntmps92
    go_wp2_with fail
    refine (F1.out _).mono ?_
    rintro e w' ⟨rfl, rfl⟩
    rw [← hw0]
    clear hw0
    go_wp2
    go_ret3
    exact ⟨rfl, B1.out⟩
  | false =>
    have N1 := hide (nf HT.out)
    have n1 : u1 = false ∨ (u1 = true ∧ (k1 == k) = false) := by
      cases u1 with
      | false => exact .inl rfl
      | true => right; refine ⟨rfl, ?_⟩; have := N1.out; simpa using this
    cases u with
    | true =>
      obtain ⟨rfl, rfl⟩ := HU.out.1 rfl
      clear HT HU
      rcases n1 with rfl | ⟨rfl, n1⟩
      · go_enter Try.func92, Try.ntmps92
        go_wp2_with fail
        refine (F1.out _).mono ?_
        rintro e w' ⟨rfl, rfl⟩
        rw [← hw0]
        clear hw0
        go_wp2_with (go_at_call 94; refine (F2.out _).mono ?_; rintro e w' ⟨rfl, rfl⟩)
        go_ret3
        exact ⟨rfl, B2.out⟩
      · go_enter Try.func92, Try.ntmps92
        go_wp2_with fail
        refine (F1.out _).mono ?_
        rintro e w' ⟨rfl, rfl⟩
        rw [← hw0]
        clear hw0
        go_wp2_with (go_at_call 94; refine (F2.out _).mono ?_; rintro e w' ⟨rfl, rfl⟩)
        go_ret3
        exact ⟨rfl, B2.out⟩
    | false =>
      have N2 := hide (nf HU.out)
      have n2 : u2 = false ∨ (u2 = true ∧ (k2 == k) = false) := by
        cases u2 with
        | false => exact .inl rfl
        | true => right; refine ⟨rfl, ?_⟩; have := N2.out; simpa using this
      clear HT HU
      rcases n1 with rfl | ⟨rfl, n1⟩ <;> rcases n2 with rfl | ⟨rfl, n2⟩
      all_goals
        go_enter Try.func92, Try.ntmps92
        go_wp2_with fail
        refine (F1.out _).mono ?_
        rintro e w' ⟨rfl, rfl⟩
        rw [← hw0]
        clear hw0
        go_wp2_with (go_at_call 94; refine (F2.out _).mono ?_; rintro e w' ⟨rfl, rfl⟩)
        go_ret3
        exact ⟨rfl, B2.out⟩
end Go.Proofs.Ytehjfjplajimfaa

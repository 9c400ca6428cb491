/-
  What the program does with its maps of places: the first room that is great enough, a room halved, rooms put together. Each contract says what it asks.
-/
import Derived.Test.YtjffjoednmlkiaaRmk
namespace Go.Proofs.Ytjffjoednmlkiaa
open Go.RowKit Go.Maps Go.MapKept Go.ChangeMaps
set_option linter.unusedVariables false

/-- The first room of the least order that is great enough: a place, an order (6 where there is none). -/
def fsS (G : Om) (want : Int) (s : Int × Int) (k : Int) : Int × Int := if want ≤ (lkM G k).getD 0 ∧ (lkM G k).getD 0 < s.2 then (k, (lkM G k).getD 0) else s
def fsF (G : Om) (want : Int) (ks : List Int) : Int × Int := ks.foldl (fsS G want) (0, 6)
theorem fsF_succ (G : Om) (want : Int) (ks : List Int) (k : Nat) (h : k < ks.length) : fsF G want (ks.take (k + 1)) = fsS G want (fsF G want (ks.take k)) (ks.getD k 0) := by
  rw [take_succ_getD ks k 0 h]
  simp [fsF, List.foldl_append]
/-- A look-up in a region that only reads. -/
theorem wpQuiet_lookup {w : World} {ops : Array Oper} {rest : List Oper} {o : Oper} {a : Act} {Q : Act → Prop} (hw : Region.wanted o (yielded ops a.tmps) = true) (m x : Operand) (t : TypeId) (c : Bool) (hop : o.op = Op.lookup t m x c) (v : Value)
    (hrun : ∀ n, (Instr.lookup t (a.eval m) (a.eval x) c).run Try.prog (w.drewN n) = .ok v (w.drewN n)) (h : wpQuiet Try.prog ops (fun w' => ∃ n, w' = w.drewN n) Q rest (a.put o.dst v)) :
    wpQuiet Try.prog ops (fun w' => ∃ n, w' = w.drewN n) Q (o :: rest) a := by
  refine BigFrame.wpQuiet_want hw fun K hK => ⟨v, fun w' hw' => ?_, hK _ h⟩
  obtain ⟨n, rfl⟩ := hw'
  unfold Oper.quietAt execOp
  simp only [hop, Sem.run_bind, Sem.run_pure, hrun n, Result.andThen_ok]
  exact ⟨rfl, rfl⟩
theorem MapAt.drewN {w : World} {b : Nat} {G : Om} (h : MapAt w b G) (n : Nat) : MapAt (w.drewN n) b G := h.below (below_drewN' n)
theorem MapAt.drew {w : World} {b : Nat} {G : Om} (h : MapAt w b G) : MapAt w.drew b G := ⟨h.len, h.own.drew⟩
theorem keysG_in (G : Om) (hl : G.length = 32) (k : Nat) (h : k < (keysG G).length) : 0 ≤ (keysG G).getD k 0 ∧ (keysG G).getD k 0 < 32 := by
  have hm : (keysG G).getD k 0 ∈ keysG G := by rw [List.getD_eq_getElem?_getD, List.getElem?_eq_getElem h, Option.getD_some]; exact List.getElem_mem h
  have h1 := selF_ge _ 0 _ hm
  have h2 := selF_lt _ 0 _ hm
  rw [List.length_map, hl] at h2
  omega

set_option maxRecDepth 100000 in
set_option maxHeartbeats 1600000 in
theorem firstOf_calls (b : Nat) (G : Om) (want : Int) (w : World) (h : MapAt w b G) :
    Calls Try.prog 155 #[.map (some b), .int .i64 want] w fun e w' => e = .returned (.tuple #[.int .i64 (fsF G want (keysG G)).1, .bool (decide ((fsF G want (keysG G)).2 < 6))]) ∧ Below w.heap.size w w' := by
  have M := hide h
  have HL := hide h.len
  clear h
  have kl := keysG_len G
  rw [HL.out] at kl
  have IN := hide (keysG_in G HL.out)
  obtain ⟨ks, hks⟩ : ∃ ks, ks = keysG G := ⟨_, rfl⟩
  have HK := hide hks
  rw [← hks] at kl IN ⊢
  clear hks
  go_enter Try.func155, Try.ntmps155
  go_wp2_with fail
  refine (places_calls b G w M.out).mono ?_
  rw [← HK.out]
  rintro e w1 ⟨v, rfl, o1, b1⟩
  obtain ⟨a, cap, rfl⟩ := row_slice o1
  have O := hide (Own.rd o1)
  have B1 := hide b1
  have M1 := hide (M.out.below b1)
  clear o1 b1 M
  go_wp2
  go_loopw [6, 7, 13] (fun vf vl vi wr => ∃ (k : Nat) (f l : Int), k ≤ ks.length ∧ vi = .int .i64 k ∧ vf = .int .i64 f ∧ vl = .int .i64 l ∧ fsF G want (ks.take k) = (f, l) ∧ Below w1.heap.size w1 wr) (fun _ _ vi _ => ks.length - (intOf vi).toNat)
  case atStart => exact ⟨0, 0, 6, Nat.zero_le _, rfl, rfl, rfl, rfl, Below.refl _ _⟩
  case round =>
    obtain ⟨k, f, l, hk, rfl, rfl, rfl, hf, hb⟩ := hrel
    have HF := hide hf
    have B := hide hb
    have R := hide (O.out.below hb)
    have M2 := hide (M1.out.below hb)
    clear hf hb
    by_cases hlt : k < ks.length
    · have hlt' : (k : Int) < (ks.length : Int) := by omega
      obtain ⟨bb, off, rfl, hc⟩ := R.out.cellAt k hlt
      have hin := IN.out k hlt
      have FS := fsF_succ G want ks k hlt
      rw [HF.out] at FS
      obtain ⟨x, hx⟩ : ∃ x, x = ks.getD k 0 := ⟨_, rfl⟩
      rw [← hx] at hc hin FS
      have L := M2.out.look (k := x) (wfI_small (by omega) (by omega))
      have LQ := hide (fun n => (M2.out.drewN n).look (k := x) (wfI_small (by omega) (by omega)))
      unfold fsS at FS
      obtain ⟨y, hy⟩ : ∃ y, y = (lkM G x).getD 0 := ⟨_, rfl⟩
      rw [← hy] at L LQ FS
      clear hx hy hin
      by_cases h1 : want ≤ y
      · by_cases h2 : y < l
        · rw [if_pos ⟨h1, h2⟩] at FS
          have F2 := hide FS
          have h1' := decide_eq_true h1
          have h2' := decide_eq_true h2
          clear FS
          go_wp2
          refine wp_region_quiet_lit (by kernel_rfl) (by kernel_rfl) ?_
          repeat (go_big_quiet_step (fail))
          refine wpQuiet_lookup (by kernel_rfl) (.tmp 30) (.tmp 31) 85 false rfl (.int .i64 y) LQ.out ?_
          go_frame
          repeat (go_big_quiet_step (fail))
          refine wpQuiet_nil ?_
          intro _ hw'
          obtain ⟨nq, rfl⟩ := hw'
          go_wp2
          go_roundw
          case rel => exact ⟨k + 1, x, y, by omega, by go_num, rfl, rfl, F2.out, below_drewN B.out _⟩
          case measure => simp [intOf]; omega
        · rw [if_neg (fun h => h2 h.2)] at FS
          have F2 := hide FS
          have h2' := decide_eq_false h2
          clear FS
          go_wp2
          go_roundw
          case rel => exact ⟨k + 1, f, l, by omega, by go_num, rfl, rfl, F2.out, B.out⟩
          case measure => simp [intOf]; omega
      · rw [if_neg (fun h => h1 h.1)] at FS
        have F2 := hide FS
        clear FS
        go_wp2
        go_roundw
        case rel => exact ⟨k + 1, f, l, by omega, by go_num, rfl, rfl, F2.out, B.out⟩
        case measure => simp [intOf]; omega
    · obtain rfl : k = ks.length := by omega
      have HF2 : Hid (fsF G want ks = (f, l)) := by have := HF.out; rw [List.take_length] at this; exact this
      go_wp2
      go_ret2
      rw [HF2.out]
      exact ⟨rfl, B1.out.trans (B.out.mono B1.out.size)⟩

set_option maxRecDepth 100000 in
set_option maxHeartbeats 1600000 in
theorem equalBuddy_calls (b : Nat) (G : Om) (a o : Int) (w : World) (h : MapAt w b G) (ha : wfI a) (ho : (lkM G a).getD 0 = o) :
    Calls Try.prog 118 #[.map (some b), .int .i64 a] w fun e w' => e = .returned (.tuple #[.int .i64 (bdV a o), .bool (bdB a o && decide (lkM G (bdV a o) = some o))]) ∧ Below w.heap.size w w' := by
  have L := h.look (k := a) ha
  have LQ := hide (fun n => (h.drewN n).look (k := a) ha)
  rw [ho] at L LQ
  have C := hide (buddyOf_calls a o w)
  cases hb : bdB a o with
  | false =>
    have E : Hid (bdV a o = 0) := by show bdV a o = 0; unfold bdV; rw [hb]; rfl
    rw [hb, E.out] at C
    rw [E.out]
    clear hb h ha ho
    go_enter Try.func118, Try.ntmps118
    go_wp2_with (go_at_call 152; refine C.out.mono ?_; rintro e w' ⟨rfl, rfl⟩)
    go_ret2
    exact ⟨rfl, Below.refl _ _⟩
  | true =>
    have E : Hid (bdV a o = bud a o.toNat) := by show bdV a o = _; unfold bdV; rw [hb]; rfl
    rw [hb] at C
    obtain ⟨y, hy⟩ : ∃ y, y = bdV a o := ⟨_, rfl⟩
    rw [← hy] at C E ⊢
    have hwy : wfI y := by
      rw [E.out]
      have hr : rmP a o := (rmB_iff a o).1 (by unfold bdB at hb; simp only [Bool.and_eq_true] at hb; exact hb.1)
      obtain ⟨r1, r2, r3, r4, r5⟩ := hr
      have h1 := pw_pos o.toNat
      have h2 := pw_le o.toNat (by omega)
      unfold bud
      split
      · exact wfI_small (by omega) (by omega)
      · exact wfI_small (by omega) (by omega)
    have K := h.lookOk (k := y) hwy
    cases hl : lkM G y with
    | none =>
      rw [hl] at K
      simp only [Option.getD_none, Option.isSome_none] at K
      clear hb h ha ho hy hwy E hl
      go_enter Try.func118, Try.ntmps118
      go_wp2_with (go_at_call 152; refine C.out.mono ?_; rintro e w' ⟨rfl, rfl⟩)
      go_quiet (fail)
      go_wp2
      go_ret2
      exact ⟨rfl, below_drewN (Below.refl _ _) _⟩
    | some z =>
      rw [hl] at K
      simp only [Option.getD_some, Option.isSome_some] at K
      by_cases hz : z = o
      · subst hz
        clear hb h ha ho hy hwy E hl
        have te : (z == z) = true := by simp
        go_enter Try.func118, Try.ntmps118
        go_wp2_with (go_at_call 152; refine C.out.mono ?_; rintro e w' ⟨rfl, rfl⟩)
        refine wp_region_quiet_lit (by kernel_rfl) (by kernel_rfl) ?_
        repeat (go_big_quiet_step (fail))
        refine wpQuiet_lookup (by kernel_rfl) (.tmp 29) (.tmp 30) 85 false rfl _ LQ.out ?_
        go_frame
        repeat (go_big_quiet_step (fail))
        refine wpQuiet_nil ?_
        intro _ hw'
        obtain ⟨nq, rfl⟩ := hw'
        go_wp2
        go_ret2
        exact ⟨by simp, below_drewN (Below.refl _ _) _⟩
      · have te : (z == o) = false := by simpa using hz
        have D : Hid (decide (some z = some o) = false) := decide_eq_false (fun h => hz (Option.some.inj h))
        clear hb h ha ho hy hwy E hl hz
        go_enter Try.func118, Try.ntmps118
        go_wp2_with (go_at_call 152; refine C.out.mono ?_; rintro e w' ⟨rfl, rfl⟩)
        refine wp_region_quiet_lit (by kernel_rfl) (by kernel_rfl) ?_
        repeat (go_big_quiet_step (fail))
        refine wpQuiet_lookup (by kernel_rfl) (.tmp 29) (.tmp 30) 85 false rfl _ LQ.out ?_
        go_frame
        repeat (go_big_quiet_step (fail))
        refine wpQuiet_nil ?_
        intro _ hw'
        obtain ⟨nq, rfl⟩ := hw'
        go_wp2
        go_ret2
        exact ⟨by rw [D.out]; rfl, below_drewN (Below.refl _ _) _⟩
end Go.Proofs.Ytjffjoednmlkiaa

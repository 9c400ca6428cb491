/-
  What is come to: the program's closure that marks, and the iterator that goes down the nodes (slices.Backward), call by call. Each contract says what it asks.
-/
import Derived.Test.YtakhggnbhjoojaaRcc
import Derived.Test.YtakhggnbhjoojaaRgf
import Derived.Lib.OthersKept
import Derived.Shelf.Abstract
import Derived.Shelf.RegionOpen
import Derived.OwnWalkIn
import Derived.TacticsInMore
import Derived.LoopNIn
import Derived.LoopIn
namespace Go.Proofs.Ytakhggnbhjoojaa
open Go.RowKit Go.Shelf
set_option linter.unusedVariables false
attribute [local go_sem] Oper.semAt_some

/-- A place of a row of Booleans: what stands there, and what the row is when it is written. -/
theorem ownZ_put {w : World} {lo n g c x : Nat} {bs : List Bool} (h : OwnZ w lo (.slice (some ⟨g, 0, none⟩) n c) bs) (hl : bs.length = n) (hx : x < bs.length) (y : Bool) :
    w.cell? ⟨g, x, none⟩ = some (.bool (bs.getD x false)) ∧ w.frozen? ⟨g, x, none⟩ = false ∧ OwnZ (w.setCell ⟨g, x, none⟩ (.bool y)) lo (.slice (some ⟨g, 0, none⟩) n c) (bs.set x y) ∧ w.grownBy (w.setCell ⟨g, x, none⟩ (.bool y)) (some g) := by
  subst hl
  refine ⟨?_, World.ownsRow.frozenAt h x, ?_⟩
  · rw [World.ownsRow.cellAt h x (by omega), List.getElem?_map, List.getElem?_eq_getElem hx, List.getD_eq_getElem?_getD, List.getElem?_eq_getElem hx]
    rfl
  · have st := World.ownsRow.stored h x (.bool y)
    refine ⟨?_, st.2⟩
    have h1 := st.1
    show World.ownsRow _ _ _ _ _ (bs.set x y).length _
    rw [List.length_set]
    rw [← List.map_set] at h1
    exact h1

set_option maxRecDepth 100000 in
set_option maxHeartbeats 1600000 in
theorem reach_calls (v : Value) (xs : List Int) (bs : List Bool) (B g n lo : Nat) (w : World) (hv : ∀ w', w.grownBy w' (some g) → Rd w' v xs) (hB : w.cell? ⟨B, 0, none⟩ = some (.slice (some ⟨g, 0, none⟩) n n)) (hBg : B ≠ g)
    (ho : OwnZ w lo (.slice (some ⟨g, 0, none⟩) n n) bs) (hl : bs.length = n) (hx : ∀ i, i < xs.length → 0 ≤ xs.getD i 0 ∧ xs.getD i 0 < (n : Int)) :
    Calls Try.prog 117 #[v, .pointer (some ⟨B, 0, none⟩)] w fun e w' => e = .returned (.tuple #[]) ∧ OwnZ w' lo (.slice (some ⟨g, 0, none⟩) n n) (rchN bs xs) ∧ w.grownBy w' (some g) := by
  have V := hide hv
  obtain ⟨a, cap, rfl, h1, h2⟩ := (hv w grown_ref).slc
  have hm : xs.length ≤ maxLen := by omega
  unfold maxLen at hm
  have O0 := hide ho
  have HX := hide hx
  have HB := hide hB
  clear h1 h2 ho hx hv hB
  go_enter Try.func117, Try.ntmps117
  go_wp2
  go_loopw [7] (fun vi wr => ∃ (j : Nat) (cj : List Bool), j ≤ xs.length ∧ vi = .int .i64 j ∧ cj = rchN bs (xs.take j) ∧ OwnZ wr lo (.slice (some ⟨g, 0, none⟩) n n) cj ∧ w.grownBy wr (some g)) (fun vi _ => xs.length - (intOf vi).toNat)
  case atStart => exact ⟨0, _, Nat.zero_le _, rfl, rfl, by simpa [rchN] using O0.out, grown_ref⟩
  case round =>
    obtain ⟨j, cj, hj, rfl, hcj, ho, hg⟩ := hrel
    have G := hide hg
    have O := hide ho
    have CJ := hide hcj
    clear ho hg hcj O0
    by_cases hlj : j < xs.length
    · obtain ⟨hb, hof, rfl, hc1⟩ := (V.out wr G.out).cellAt j hlj
      have hx := HX.out j hlj
      obtain ⟨x, hn⟩ : ∃ x : Nat, xs.getD j 0 = (x : Int) := ⟨(xs.getD j 0).toNat, by omega⟩
      rw [hn] at hc1 hx
      have hnm : x < n := by have := hx.2; omega
      have hlj' : (j : Int) < (xs.length : Int) := by omega
      have hnm' : (x : Int) < (n : Int) := by omega
      have hcl : cj.length = n := by rw [CJ.out, rchN_len, hl]
      obtain ⟨d0, f0, o1, g1⟩ := ownZ_put O.out hcl (by rw [hcl]; exact hnm) true
      have hb0 : wr.cell? ⟨B, 0, none⟩ = some (.slice (some ⟨g, 0, none⟩) n n) := G.out.cell HB.out (by simpa using hBg)
      have hst : cj.set x true = rchN bs (xs.take (j + 1)) := by
        rw [rchN_succ _ _ _ hlj, hn, CJ.out, Int.toNat_natCast]
      have HS := hide hst
      have O1 := hide o1
      have G1 := hide (grown_tr G.out g1)
      generalize cj.getD x false = c at *
      clear hcl hst hx o1 g1
      go_wp2
      go_roundw
      case rel => exact ⟨j + 1, cj.set x true, by omega, by go_num, HS.out, O1.out, G1.out⟩
      case measure => simp [intOf]; omega
    · obtain rfl : j = xs.length := by omega
      have h1 := O.out
      rw [CJ.out, List.take_length] at h1
      have O2 := hide h1
      clear h1
      go_wp2
      exact bodyPost_end (results_none rfl _ _ _) rfl ⟨rfl, O2.out, G.out⟩

/-- What the iterator gives: the nodes, from the last to the first. -/
def backArgs (us : List Value) (m : List Nd) : List (Array Value) := (List.range m.length).map fun k : Nat => #[.int .i64 ((m.length - 1 - k : Nat) : Int), .agg #[us.getD (m.length - 1 - k) nilRow, .bool (m.getD (m.length - 1 - k) nd0).2]]
theorem backArgs_length (us : List Value) (m : List Nd) : (backArgs us m).length = m.length := by simp [backArgs]
theorem backArgs_at (us : List Value) (m : List Nd) (k : Nat) (h : k < m.length) : (backArgs us m)[k]? = some #[.int .i64 ((m.length - 1 - k : Nat) : Int), .agg #[us.getD (m.length - 1 - k) nilRow, .bool (m.getD (m.length - 1 - k) nd0).2]] := by simp [backArgs, h]
theorem backArgs_some {us : List Value} {m : List Nd} {k : Nat} {x : Array Value} (h : (backArgs us m)[k]? = some x) : k < m.length ∧ x = #[.int .i64 ((m.length - 1 - k : Nat) : Int), .agg #[us.getD (m.length - 1 - k) nilRow, .bool (m.getD (m.length - 1 - k) nd0).2]] := by
  have hk : k < m.length := by have := (List.getElem?_eq_some_iff.1 h).1; rwa [backArgs_length] at this
  rw [backArgs_at us m k hk] at h
  exact ⟨hk, (Option.some.inj h).symm⟩
/-- What the iterator reads all the while. -/
def BackCap (us : List Value) (m : List Nd) (Bs : Nat) (pa : Option Addr) (pc : Nat) (W : World) : Prop := W.cell? ⟨Bs, 0, none⟩ = some (.slice pa m.length pc) ∧ ∀ i, i < m.length → ∃ b off, pa = some ⟨b, off, none⟩ ∧ W.cell? ⟨b, off + i * 2, none⟩ = some (us.getD i nilRow) ∧ W.cell? ⟨b, off + i * 2 + 1, none⟩ = some (.bool (m.getD i nd0).2)

set_option maxRecDepth 100000 in
set_option maxHeartbeats 1000000 in
theorem back1_iter (us : List Value) (m : List Nd) (Bs : Nat) (pa : Option Addr) (pc : Nat) (hn : m.length ≤ 14) :
    Iter Try.prog 137 #[.pointer (some ⟨Bs, 0, none⟩)] 0 (backArgs us m) (BackCap us m Bs pa pc) := by
  intro n l J W hJ hC hY h0
  rw [backArgs_length]
  show CallsIn Fence.wide n Try.prog 137 #[.func (.yield l) #[] #[], .pointer (some ⟨Bs, 0, none⟩)] W _
  have HC := hide hC
  have HY := hide hY
  have H0 := hide h0
  have hc0 := (hC 0 W h0).1
  clear hJ hC hY h0
  refine callsIn_of_wp Try.func137 rfl trivial ?_ rfl
  simp only [Try.ntmps137, List.size_toArray, List.length_cons, List.length_nil, Nat.reduceAdd, Nat.reduceSub, Array.replicate_succ, Array.replicate_zero, List.push_toArray, List.append_toArray, List.nil_append, List.cons_append]
  gi_wp2
  gi_loopw [3] (fun vi wr => ∃ k j : Nat, k + j = m.length ∧ vi = .int .i64 ((j : Int) - 1) ∧ J k wr ∧ W.heap.size ≤ wr.heap.size) (fun vi _ => (intOf vi + 1).toNat)
  case atStart => exact ⟨0, m.length, by omega, by first | rfl | go_num, H0.out, Nat.le_refl _⟩
  case round =>
    obtain ⟨k, j, hk, rfl, hJk, hsz⟩ := hrel
    have hck := (HC.out k wr hJk).1
    cases j with
    | zero =>
      obtain rfl : k = m.length := by omega
      gi_wp2
      go_end0
      exact ⟨⟨_, rfl⟩, hJk⟩
    | succ j =>
      have hj1 : (((j + 1 : Nat) : Int) - 1) = (j : Int) := by omega
      rw [hj1]
      have hjm : (j : Int) < (m.length : Int) := by omega
      have hj0 : (0 : Int) ≤ (j : Int) := by omega
      have hjk : m.length - 1 - k = j := by omega
      obtain ⟨b, off, rfl, d0, d1⟩ := (HC.out k wr hJk).2 j (by omega)
      obtain ⟨fn, tmps, assign, body, hy, hR⟩ := HY.out (n - 1) k _ wr (backArgs_at us m k (by omega)) hJk (by omega)
      rw [hjk] at hy
      generalize us.getD j nilRow = u at hy d0
      generalize (m.getD j nd0).2 = z at hy d1
      have HK := hide hk
      clear hj1 hjk hk
      gi_wp2
      refine ⟨fun h => by simp [Fence.wide] at h, hR.mono ?_⟩
      rintro e W4 ⟨rfl, h4, k4⟩
      have s4 := Nat.le_trans hsz k4.size
      clear k4 hR
      gi_wp2
      go_roundw
      case rel => exact ⟨k + 1, j, by have := HK.out; omega, by first | rfl | go_num, h4, s4⟩
      case measure => simp [intOf]
end Go.Proofs.Ytakhggnbhjoojaa

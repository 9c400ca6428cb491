/-
  A frame read from a sector's bytes: the program's function, call by call. The sector has its length.
-/
import Derived.Test.YtpgmocogffolaaaFrr
import Derived.Deep.RegionHeld3
namespace Go.Proofs.Ytpgmocogffolaaa
open Go.RowKit

/-- A frame that is read, whatever its sum. -/
def rwR (s : ByteArray) : Fr :=
  if longOf (bs s) ≤ 16 ∧ goodF (kindOf (bs s)) (atOf (bs s)) (epochOf (bs s)) (longOf (bs s)) ∧ frB (kindOf (bs s)) (atOf (bs s)) (epochOf (bs s)) (bodyOf (bs s)) = bs s then
    ⟨kindOf (bs s), atOf (bs s), epochOf (bs s), ofN (bodyOf (bs s)), 0, true⟩
  else frNo 3

theorem store4 {w : World} {p : Nat} {a b c d : Value} {T : TypeId} (h : w.heap[p]? = some (.cells #[a, b, c, d] T (0, 0))) (v0 v1 v2 v3 : Value) :
    ((((w.setCell ⟨p, 0, none⟩ v0).setCell ⟨p, 1, none⟩ v1).setCell ⟨p, 2, none⟩ v2).setCell ⟨p, 3, none⟩ v3).heap[p]? = some (.cells #[v0, v1, v2, v3] T (0, 0)) := by
  have h0 := heap_setCell_same w p 0 _ _ v0 h
  have h1 := heap_setCell_same _ p 1 _ _ v1 h0
  have h2 := heap_setCell_same _ p 2 _ _ v2 h1
  have h3 := heap_setCell_same _ p 3 _ _ v3 h2
  simpa using h3
theorem below4 {w w' : World} {B p : Nat} (h : Below B w w') (hp : B ≤ p) (v0 v1 v2 v3 : Value) :
    Below B w ((((w'.setCell ⟨p, 0, none⟩ v0).setCell ⟨p, 1, none⟩ v1).setCell ⟨p, 2, none⟩ v2).setCell ⟨p, 3, none⟩ v3) :=
  (((h.setCell hp v0).setCell hp v1).setCell hp v2).setCell hp v3

set_option maxRecDepth 100000 in
set_option maxHeartbeats 1600000 in
theorem frameWith_calls (s : ByteArray) (w : World) (hs : s.size = 28) :
    Calls Try.prog 107 #[.string s] w fun e w' => e = .returned (.tuple #[.agg #[.int .i64 (rwR s).K, .int .i64 (rwR s).A, .int .i64 (rwR s).E, .string (rwR s).B], .bool (rwR s).ok]) ∧ Below w.heap.size w w' := by
  have B0 := hide (below_box w (.cells #[.int .i64 0, .int .i64 0, .int .i64 0, .string ⟨#[]⟩] 69))
  have hcv := conv_bytes s (w.alloc (.cells #[.int .i64 0, .int .i64 0, .int .i64 0, .string ⟨#[]⟩] 69))
  have hr := bytesW_row s (w.alloc (.cells #[.int .i64 0, .int .i64 0, .int .i64 0, .string ⟨#[]⟩] 69))
  have hb1 := bytesW_below s (w.alloc (.cells #[.int .i64 0, .int .i64 0, .int .i64 0, .string ⟨#[]⟩] 69))
  have hc28 := bytesC_ge s (w.alloc (.cells #[.int .i64 0, .int .i64 0, .int .i64 0, .string ⟨#[]⟩] 69))
  generalize bytesC s (w.alloc (.cells #[.int .i64 0, .int .i64 0, .int .i64 0, .string ⟨#[]⟩] 69)) = c at hcv hr hc28
  generalize bytesW s (w.alloc (.cells #[.int .i64 0, .int .i64 0, .int .i64 0, .string ⟨#[]⟩] 69)) = W at hcv hr hb1
  rw [hs] at hcv hc28
  have hlen : (bs s).length = 28 := by rw [bs_length]; exact hs
  have hhp : W.heap[w.heap.size]? = some (.cells #[.int .i64 0, .int .i64 0, .int .i64 0, .string ⟨#[]⟩] 69 (0, 0)) := (hb1.block w.heap.size (by simp)).trans (heap_alloc_new w _)
  have hsz : (w.alloc (.cells #[.int .i64 0, .int .i64 0, .int .i64 0, .string ⟨#[]⟩] 69)).heap.size = w.heap.size + 1 := by simp
  rw [hsz] at hcv hr
  have S1 := hide (B0.out.trans (hb1.mono (by simp)))
  have RR := hide hr
  have HL := hide hlen
  have HP := hide hhp
  have p0 := cell_of_row W w.heap.size 0 _ _ _ hhp
  have p1 := cell_of_row W w.heap.size 1 _ _ _ hhp
  have p2 := cell_of_row W w.heap.size 2 _ _ _ hhp
  have p3 := cell_of_row W w.heap.size 3 _ _ _ hhp
  simp only [List.getElem?_toArray, List.getElem?_cons_zero, List.getElem?_cons_succ] at p0 p1 p2 p3
  have q0 : W.frozen? ⟨w.heap.size, 0, none⟩ = false := frozen_of_row W w.heap.size 0 _ _ hhp
  have q1 : W.frozen? ⟨w.heap.size, 1, none⟩ = false := frozen_of_row W w.heap.size 1 _ _ hhp
  have q2 : W.frozen? ⟨w.heap.size, 2, none⟩ = false := frozen_of_row W w.heap.size 2 _ _ hhp
  have q3 : W.frozen? ⟨w.heap.size, 3, none⟩ = false := frozen_of_row W w.heap.size 3 _ _ hhp
  have n5 := hr.cell 5 (by omega)
  have hN : longOf (bs s) < 256 := getD_lt (bs_lt s) 5
  have e5 : (bs s).getD 5 0 = longOf (bs s) := rfl
  rw [e5] at n5
  clear e5 hr hb1 hlen hhp hsz hs
  by_cases h16 : longOf (bs s) ≤ 16
  case neg =>
    have er : rwR s = frNo 3 := if_neg (fun h => h16 h.1)
    rw [er]
    clear er
    generalize longOf (bs s) = N at n5 hN h16
    unfold frNo
    simp only []
    go_enter Try.func107, Try.ntmps107
    go_wp2
    (try simp only [Exit.inBlock, Exit.then])
    exact bodyPost_ret (res_frame2 rfl _ _ w.heap.size 0 0 0 ⟨#[]⟩ (0, 0) rfl (store4 HP.out _ _ _ _)) rfl ⟨rfl, below4 S1.out (Nat.le_refl _) _ _ _ _⟩
  have n0 := RR.out.cell 0 (by have := HL.out; omega)
  have hz0 : kindOf (bs s) < 256 := getD_lt (bs_lt s) 0
  have hz1 : (bs s).getD 1 0 < 256 := getD_lt (bs_lt s) 1
  have hz2 : (bs s).getD 2 0 < 256 := getD_lt (bs_lt s) 2
  have hz3 : (bs s).getD 3 0 < 256 := getD_lt (bs_lt s) 3
  have hz4 : (bs s).getD 4 0 < 256 := getD_lt (bs_lt s) 4
  have hA : atOf (bs s) < 65536 := by unfold atOf; omega
  have hE : epochOf (bs s) < 65536 := by unfold epochOf; omega
  have hbl : (bodyOf (bs s)).length = longOf (bs s) := by
    unfold bodyOf
    rw [List.length_take, List.length_drop, HL.out]
    omega
  have hbsm : ∀ x ∈ bodyOf (bs s), x < 256 := fun x hx => bs_lt s x (List.mem_of_mem_drop (List.mem_of_mem_take hx))
  have hBs : (ofN (bodyOf (bs s))).size = longOf (bs s) := by rw [ofN_size]; exact hbl
  have C68a : Hid (∀ w', Below W.heap.size W w' → Calls Try.prog 142 #[.slice (some ⟨w.heap.size + 1, 1, none⟩) 27 (c - 1)] w' fun e w'' => e = .returned (.int .i64 ((atOf (bs s) : Nat) : Int)) ∧ ∃ m, w'' = w'.drewN m) := by
    show ∀ w', _
    intro w' hb
    have r := RR.out.kept hb
    exact highFirst_calls _ 1 _ _ _ _ w' (r.cell 1 (by have := HL.out; omega)) (r.cell 2 (by have := HL.out; omega)) hz1 hz2 (by omega)
  have C68b : Hid (∀ w', Below W.heap.size W w' → Calls Try.prog 142 #[.slice (some ⟨w.heap.size + 1, 3, none⟩) 25 (c - 3)] w' fun e w'' => e = .returned (.int .i64 ((epochOf (bs s) : Nat) : Int)) ∧ ∃ m, w'' = w'.drewN m) := by
    show ∀ w', _
    intro w' hb
    have r := RR.out.kept hb
    exact highFirst_calls _ 3 _ _ _ _ w' (r.cell 3 (by have := HL.out; omega)) (r.cell 4 (by have := HL.out; omega)) hz3 hz4 (by omega)
  have C45 : Hid (∀ w', Calls Try.prog 143 #[.slice (some ⟨w.heap.size + 1, 0, none⟩) 28 c, .int .i64 6, .int .i64 (longOf (bs s) : Nat)] w' fun e w'' => e = .returned (.slice (some ⟨w.heap.size + 1, cutO 6 (longOf (bs s)), none⟩) (longOf (bs s)) (longOf (bs s))) ∧ w' = w'') :=
    fun w' => cutBytes_any (w.heap.size + 1) 28 c 6 (longOf (bs s)) w' (by omega) (by omega)
  have F : Hid (∀ w', Below W.heap.size W w' → w'.cell? ⟨w.heap.size + 1, 0, none⟩ = some (.int .u8 (kindOf (bs s) : Nat)) ∧ (convert 121 9 (.slice (some ⟨w.heap.size + 1, cutO 6 (longOf (bs s)), none⟩) (longOf (bs s)) (longOf (bs s)))).run Try.prog w' = .ok (.string (ofN (bodyOf (bs s)))) w') := by
    show ∀ w', _
    intro w' hb
    have r := RR.out.kept hb
    exact ⟨r.cell 0 (by have := HL.out; omega), r.cut (bs_lt s) (by have := HL.out; omega)⟩
  have CASES : Hid ((frR (kindOf (bs s)) (atOf (bs s)) (epochOf (bs s)) (ofN (bodyOf (bs s))) = (⟨#[]⟩, false) ∧ rwR s = frNo 3) ∨
      ((frR (kindOf (bs s)) (atOf (bs s)) (epochOf (bs s)) (ofN (bodyOf (bs s)))).2 = true ∧ ¬ (frR (kindOf (bs s)) (atOf (bs s)) (epochOf (bs s)) (ofN (bodyOf (bs s)))).1 = s ∧ rwR s = frNo 3) ∨
      (frR (kindOf (bs s)) (atOf (bs s)) (epochOf (bs s)) (ofN (bodyOf (bs s))) = (s, true) ∧ rwR s = ⟨kindOf (bs s), atOf (bs s), epochOf (bs s), ofN (bodyOf (bs s)), 0, true⟩)) := by
    show _ ∨ _
    by_cases hg : goodF (kindOf (bs s)) (atOf (bs s)) (epochOf (bs s)) (longOf (bs s))
    · have e1 : frR (kindOf (bs s)) (atOf (bs s)) (epochOf (bs s)) (ofN (bodyOf (bs s))) = (ofN (frB (kindOf (bs s)) (atOf (bs s)) (epochOf (bs s)) (bodyOf (bs s))), true) := by
        unfold frR
        rw [hBs, if_pos hg, bs_ofN hbsm]
        rfl
      by_cases he : frB (kindOf (bs s)) (atOf (bs s)) (epochOf (bs s)) (bodyOf (bs s)) = bs s
      · right; right
        rw [e1, he, ofN_bs]
        exact ⟨rfl, if_pos ⟨h16, hg, he⟩⟩
      · right; left
        rw [e1]
        refine ⟨rfl, fun h => he ?_, if_neg (fun h => he h.2.2)⟩
        have h' : ofN (frB (kindOf (bs s)) (atOf (bs s)) (epochOf (bs s)) (bodyOf (bs s))) = s := h
        have h2 := congrArg bs h'
        rw [bs_ofN (frB_small hz0 hA hE (by omega) hbsm)] at h2
        exact h2
    · left
      refine ⟨?_, if_neg (fun h => hg h.2.1)⟩
      unfold frR
      rw [hBs, if_neg hg]
  have hbm : (ofN (bodyOf (bs s))).size ≤ maxLen := by rw [hBs]; unfold maxLen; omega
  have HBM := hide hbm
  clear hbm hBs hbsm hbl hz1 hz2 hz3 hz4
  have e0 : (bs s).getD 0 0 = kindOf (bs s) := rfl
  rw [e0] at n0
  clear e0
  generalize ofN (bodyOf (bs s)) = Bd at F CASES HBM
  generalize kindOf (bs s) = z0 at n0 hz0 F CASES
  generalize atOf (bs s) = zA at hA C68a CASES
  generalize epochOf (bs s) = zE at hE C68b CASES
  generalize longOf (bs s) = N at n5 hN h16 C45 F
  have u1 : ¬ c = 1 := by omega
  have u3 : ¬ c = 3 := by omega
  have u1' : (1 : Int) ≤ (c : Int) := by omega
  have u3' : (3 : Int) ≤ (c : Int) := by omega
  have hal : ∀ (n : Nat) (o : Obj), (W.drewN n).alloc o = (W.alloc o).drewN n := fun _ _ => rfl
  have hse : ∀ (X : World) (n : Nat) (p : Addr) (v : Value), (X.drewN n).setCell p v = (X.setCell p v).drewN n := fun _ _ _ _ => rfl
  have hwz : IntKind.i64.wrap (z0 : Int) = (z0 : Int) := by rw [IntKind.wrap_i64]; omega
  have hWs : w.heap.size < W.heap.size := by have := RR.out.lt; omega
  have FX : Hid (∀ (n : Nat) (w3 : World), Below ((W.alloc (.cells #[.int .i64 z0, .int .i64 zA, .int .i64 zE, .string Bd] 69)).drewN n).heap.size ((W.alloc (.cells #[.int .i64 z0, .int .i64 zA, .int .i64 zE, .string Bd] 69)).drewN n) w3 →
      Below w.heap.size w w3 ∧ w3.heap[w.heap.size]? = some (.cells #[.int .i64 0, .int .i64 0, .int .i64 0, .string ⟨#[]⟩] 69 (0, 0)) ∧ w3.heap[W.heap.size]? = some (.cells #[.int .i64 z0, .int .i64 zA, .int .i64 zE, .string Bd] 69 (0, 0))) := by
    show ∀ (n : Nat) (w3 : World), _
    intro n w3 b3
    have b1 : Below W.heap.size W w3 := (below_drewN ((Below.refl _ _).alloc (Nat.le_refl _) _) n).trans (b3.mono (by simp))
    refine ⟨S1.out.trans (b1.mono (by omega)), (b1.block w.heap.size hWs).trans HP.out, ?_⟩
    rw [b3.block W.heap.size (by simp)]
    exact heap_alloc_new W _
  have mk1 : True := trivial
  have mk2 : True := trivial
  go_enter Try.func107, Try.ntmps107
  go_wp2
  go_region_held3 (fun w' => w'.cell? ⟨w.heap.size + 1, 0, none⟩ = some (.int .u8 (z0 : Nat)) ∧ (convert 121 9 (.slice (some ⟨w.heap.size + 1, cutO 6 N, none⟩) N N)).run Try.prog w' = .ok (.string Bd) w')
    ((refine F.out _ ?_; repeat (first | exact Below.refl _ _ | refine Below.drew ?_ | refine below_drewN ?_ _ | refine Below.alloc ?_ (by simp) _ | refine Below.setCell ?_ (by simp) _)))
    ((first
      | (clear mk1; go_at_call 142; refine (C68a.out _ ?_).mono ?_; (repeat (first | exact Below.refl _ _ | refine Below.drew ?_ | refine below_drewN ?_ _ | refine Below.alloc ?_ (by simp) _)); rintro e' w' ⟨rfl, m, rfl⟩)
      | (clear mk2; go_at_call 142; refine (C68b.out _ ?_).mono ?_; (repeat (first | exact Below.refl _ _ | refine Below.drew ?_ | refine below_drewN ?_ _ | refine Below.alloc ?_ (by simp) _)); rintro e' w' ⟨rfl, m2, rfl⟩)
      | (go_at_call 143; refine (C45.out _).mono ?_; rintro e' w' ⟨rfl, rfl⟩)))
  all_goals
    go_wp2_with fail
    refine (frameBytes_calls z0 zA zE Bd _ HBM.out).mono ?_
    rintro e' w3 ⟨rfl, b3⟩
    obtain ⟨s3, h3, f3⟩ := FX.out _ _ b3
    have S3 := hide s3
    have H3 := hide h3
    clear b3 s3 p0 p1 p2 p3 q0 q1 q2 q3
    have p0 := cell_of_row w3 w.heap.size 0 _ _ _ h3
    have p1 := cell_of_row w3 w.heap.size 1 _ _ _ h3
    have p2 := cell_of_row w3 w.heap.size 2 _ _ _ h3
    have p3 := cell_of_row w3 w.heap.size 3 _ _ _ h3
    have c0 := cell_of_row w3 W.heap.size 0 _ _ _ f3
    have c1 := cell_of_row w3 W.heap.size 1 _ _ _ f3
    have c2 := cell_of_row w3 W.heap.size 2 _ _ _ f3
    have c3 := cell_of_row w3 W.heap.size 3 _ _ _ f3
    simp only [List.getElem?_toArray, List.getElem?_cons_zero, List.getElem?_cons_succ] at p0 p1 p2 p3 c0 c1 c2 c3
    have q0 : w3.frozen? ⟨w.heap.size, 0, none⟩ = false := frozen_of_row w3 w.heap.size 0 _ _ h3
    have q1 : w3.frozen? ⟨w.heap.size, 1, none⟩ = false := frozen_of_row w3 w.heap.size 1 _ _ h3
    have q2 : w3.frozen? ⟨w.heap.size, 2, none⟩ = false := frozen_of_row w3 w.heap.size 2 _ _ h3
    have q3 : w3.frozen? ⟨w.heap.size, 3, none⟩ = false := frozen_of_row w3 w.heap.size 3 _ _ h3
    clear h3 f3
    rcases CASES.out with ⟨e1, er⟩ | ⟨e2, e3, er⟩ | ⟨e1, er⟩
    · rw [e1]
      have ER := hide er
      clear e1 er
      go_wp2
      (try simp only [Exit.inBlock, Exit.then])
      exact bodyPost_ret (res_frame2 rfl _ _ w.heap.size 0 0 0 ⟨#[]⟩ (0, 0) rfl (store4 H3.out _ _ _ _)) rfl ⟨by rw [ER.out]; rfl, below4 S3.out (Nat.le_refl _) _ _ _ _⟩
    · rw [e2]
      have ER := hide er
      generalize (frR z0 zA zE Bd).1 = T at e3 ⊢
      have hsl : ¬ T.toList = s.toList := fun h => e3 (toList_inj h)
      have hslb : (T.toList == s.toList) = false := by simpa using hsl
      clear e2 e3 er
      go_wp2
      (try simp only [Exit.inBlock, Exit.then])
      exact bodyPost_ret (res_frame2 rfl _ _ w.heap.size 0 0 0 ⟨#[]⟩ (0, 0) rfl (store4 H3.out _ _ _ _)) rfl ⟨by rw [ER.out]; rfl, below4 S3.out (Nat.le_refl _) _ _ _ _⟩
    · rw [e1]
      have ER := hide er
      clear e1 er
      go_wp2
      (try simp only [Exit.inBlock, Exit.then])
      exact bodyPost_ret (res_frame2 rfl _ _ w.heap.size z0 zA zE Bd (0, 0) rfl (store4 H3.out _ _ _ _)) rfl ⟨by rw [ER.out]; rfl, below4 S3.out (Nat.le_refl _) _ _ _ _⟩
end Go.Proofs.Ytpgmocogffolaaa

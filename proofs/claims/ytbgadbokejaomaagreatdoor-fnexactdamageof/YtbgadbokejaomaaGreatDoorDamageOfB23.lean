/-
  TextFrom: the program's and its model's, at all rows. The program's table of rests must hold its seven numbers where the program's own functions are called.
-/
import Derived.Test.YtbgadbokejaomaaGreatDoorDamageOfB21
import Derived.Test.YtbgadbokejaomaaGreatDoorDamageOfB22
namespace Go.Proofs.YtbgadbokejaomaaGreatDoor
open Go.RowKit
open Gf (ci nat)
set_option linter.unusedVariables false

/-- The bytes of the first three rows. -/
def tfL (m : List (List Int)) : List Nat := (m.take 3).flatMap nat
def tfOk (m : List (List Int)) : Bool := (chkR 3 2 m).1 && decide ((m.getD 0 []).length = 16)
def tfN (m : List (List Int)) : Nat := (tfL m).getD 0 0
/-- The first byte and the noughts are such as a block has. -/
def tfP (m : List (List Int)) : Prop := tfN m ≤ 47 ∧ (tfL m).drop (1 + tfN m) = List.replicate (47 - tfN m) 0
def tfT (m : List (List Int)) : ByteArray := ofN (((tfL m).drop 1).take (tfN m))
/-- Rows of sixteen elements, five of them. -/
structure R16 (m : List (List Int)) : Prop where
  len : m.length = 5
  row : ∀ i, i < 5 → (m.getD i []).length = 16 ∧ (m.getD i []).all Gf.elOk = true
theorem tf_r16 {m : List (List Int)} (h : tfOk m = true) : R16 m ∧ chkR 3 2 m = (true, true) := by
  unfold tfOk at h
  simp only [Bool.and_eq_true, decide_eq_true_eq] at h
  have hc : chkOk 3 2 m = true := by
    cases hh : chkOk 3 2 m with
    | true => rfl
    | false =>
      have := h.1
      unfold chkR at this
      rw [if_neg (by rw [hh]; simp)] at this
      simp at this
  obtain ⟨_, h2, h3⟩ := chkOk_facts hc
  have hl : m.length = 5 := by omega
  refine ⟨⟨hl, fun i hi => ?_⟩, ?_⟩
  · have := piecesOk_at h3 i (by omega)
    exact ⟨by rw [this.1]; exact h.2, this.2.2⟩
  · have h1 := h.1
    unfold chkR at h1 ⊢
    rw [if_pos hc] at h1 ⊢
    exact Prod.ext h1 rfl
theorem R16.nats {m : List (List Int)} (h : R16 m) (i : Nat) (hi : i < 5) : (nat (m.getD i [])).length = 16 ∧ (∀ b ∈ nat (m.getD i []), b < 256) ∧ ci (nat (m.getD i [])) = m.getD i [] := by
  obtain ⟨h1, h2⟩ := h.row i hi
  refine ⟨by rw [Gf.nat_length]; exact h1, fun b hb => ?_, Gf.ci_nat h2⟩
  unfold nat at hb
  obtain ⟨x, hx, rfl⟩ := List.mem_map.1 hb
  have := Gf.elOk_iff.1 (List.all_eq_true.1 h2 x hx)
  omega
theorem R16.three {m : List (List Int)} (h : R16 m) : m.take 3 = [m.getD 0 [], m.getD 1 [], m.getD 2 []] := by
  have hl := h.len
  match m, hl with
  | [a, b, c, d, e], _ => rfl
theorem R16.L {m : List (List Int)} (h : R16 m) : tfL m = nat (m.getD 0 []) ++ (nat (m.getD 1 []) ++ nat (m.getD 2 [])) := by
  unfold tfL
  rw [h.three]
  simp
theorem R16.len48 {m : List (List Int)} (h : R16 m) : (tfL m).length = 48 := by
  rw [h.L, List.length_append, List.length_append, (h.nats 0 (by omega)).1, (h.nats 1 (by omega)).1, (h.nats 2 (by omega)).1]
theorem R16.small {m : List (List Int)} (h : R16 m) : ∀ b ∈ tfL m, b < 256 := by
  intro b hb
  rw [h.L] at hb
  rcases List.mem_append.1 hb with hb | hb
  · exact (h.nats 0 (by omega)).2.1 b hb
  · rcases List.mem_append.1 hb with hb | hb
    · exact (h.nats 1 (by omega)).2.1 b hb
    · exact (h.nats 2 (by omega)).2.1 b hb
theorem ext_mid (l : List Nat) (a b : Nat) : (ofN l).extract a b = ofN ((l.drop a).take (b - a)) := by
  have e := ByteArray.extract_mk (l.map UInt8.ofNat) a b
  unfold ofN
  rw [List.map_take, List.map_drop]
  exact e
theorem tfT_size {m : List (List Int)} (h : R16 m) (hn : tfN m ≤ 47) : (tfT m).size = tfN m := by
  unfold tfT
  rw [ofN_size, List.length_take, List.length_drop, h.len48]
  omega
/-- The text's block is the block just where the noughts are such. -/
theorem tf_blk {m : List (List Int)} (h : R16 m) (hn : tfN m ≤ 47) : ofN (blk (tfT m)) = ofN (tfL m) ↔ tfP m := by
  have hs := tfT_size h hn
  have hb : bs (tfT m) = ((tfL m).drop 1).take (tfN m) := bs_ofN (fun b hb => h.small b (List.mem_of_mem_drop (List.mem_of_mem_take hb)))
  have e1 : ofN (blk (tfT m)) = ofN (tfL m) ↔ blk (tfT m) = tfL m := by
    constructor
    · intro e
      have := congrArg bs e
      rw [bs_ofN (blk_small (by omega)), bs_ofN h.small] at this
      exact this
    · intro e
      rw [e]
  rw [e1]
  unfold blk tfP
  rw [hs, hb]
  have hl := h.len48
  obtain ⟨x, r, hr⟩ : ∃ x r, tfL m = x :: r := by
    cases hh : tfL m with
    | nil => rw [hh] at hl; simp at hl
    | cons x r => exact ⟨x, r, rfl⟩
  have hx : tfN m = x := by unfold tfN; rw [hr]; rfl
  rw [hr, hx]
  rw [hx] at hn
  have hrl : r.length = 47 := by rw [hr] at hl; simpa using hl
  constructor
  · intro e
    refine ⟨hn, ?_⟩
    simp only [List.drop_succ_cons, List.drop_zero, List.cons.injEq, true_and] at e
    rw [Nat.add_comm, List.drop_succ_cons]
    have : (r.take x ++ List.replicate (47 - x) 0).drop x = List.replicate (47 - x) 0 := by
      rw [List.drop_append_of_le_length (by rw [List.length_take]; omega), List.drop_eq_nil_of_le (by rw [List.length_take]; omega), List.nil_append]
    rw [← e] 
    exact this
  · rintro ⟨_, e⟩
    rw [Nat.add_comm, List.drop_succ_cons] at e
    simp only [List.drop_succ_cons, List.drop_zero, List.cons.injEq, true_and]
    rw [← e, List.take_append_drop]
theorem tf_join {m : List (List Int)} (h : R16 m) : jnbR ([nat (m.getD 0 []), nat (m.getD 1 []), nat (m.getD 2 [])].map ofN) = (ofN (tfL m), true) := by
  have n0 := h.nats 0 (by omega)
  have n1 := h.nats 1 (by omega)
  have n2 := h.nats 2 (by omega)
  unfold jnbR
  rw [if_pos]
  · congr 1
    rw [h.L]
    show ofN (fl [ofN _, ofN _, ofN _]) = _
    unfold fl
    simp only [List.flatMap_cons, List.flatMap_nil, List.append_nil]
    rw [bs_ofN n0.2.1, bs_ofN n1.2.1, bs_ofN n2.2.1]
  · refine ⟨by simp, fun i hi => ?_⟩
    have h3 : i < 3 := by simpa using hi
    have hz : (([nat (m.getD 0 []), nat (m.getD 1 []), nat (m.getD 2 [])].map ofN).getD i ⟨#[]⟩).size = 16 := by
      match i, h3 with
      | 0, _ => show (ofN (nat (m.getD 0 []))).size = 16; rw [ofN_size]; exact n0.1
      | 1, _ => show (ofN (nat (m.getD 1 []))).size = 16; rw [ofN_size]; exact n1.1
      | 2, _ => show (ofN (nat (m.getD 2 []))).size = 16; rw [ofN_size]; exact n2.1
    exact ⟨by omega, fun _ => hz⟩
theorem tf_all {m : List (List Int)} (h : tfOk m = true) : (m.all fun r : List Int => decide ((r.length : Int) = 16)) = true := by
  obtain ⟨r, _⟩ := tf_r16 h
  rw [List.all_eq_true]
  intro x hx
  obtain ⟨i, hi, rfl⟩ := List.getElem_of_mem hx
  have := (r.row i (by rw [← r.len]; exact hi)).1
  rw [List.getD_eq_getElem?_getD, List.getElem?_eq_getElem hi, Option.getD_some] at this
  rw [decide_eq_true_eq]
  omega
/-- Where the program goes on it may. -/
theorem tf_back {m : List (List Int)} (h : (m.all fun r : List Int => decide ((r.length : Int) = 16)) = true) (hc : (chkR 3 2 m).1 = true) : tfOk m = true := by
  have hco : chkOk 3 2 m = true := by
    cases hh : chkOk 3 2 m with
    | true => rfl
    | false =>
      unfold chkR at hc
      rw [if_neg (by rw [hh]; simp)] at hc
      simp at hc
  obtain ⟨_, h2, h3⟩ := chkOk_facts hco
  unfold tfOk
  rw [hc, Bool.true_and, decide_eq_true_eq]
  have hx : m.getD 0 [] ∈ m := by
    rw [List.getD_eq_getElem?_getD, List.getElem?_eq_getElem (by omega)]
    exact List.getElem_mem _
  have := List.all_eq_true.1 h _ hx
  rw [decide_eq_true_eq] at this
  omega
def tfR (m : List (List Int)) (y : Bool) : ByteArray × Bool := if tfOk m = true ∧ y = true then (tfT m, true) else (⟨#[]⟩, false)
theorem map3 {m : List (List Int)} (h : R16 m) : [nat (m.getD 0 []), nat (m.getD 1 []), nat (m.getD 2 [])].map ci = m.take 3 := by
  rw [h.three]
  simp only [List.map_cons, List.map_nil]
  rw [(h.nats 0 (by omega)).2.2, (h.nats 1 (by omega)).2.2, (h.nats 2 (by omega)).2.2]

set_option maxRecDepth 100000 in
set_option maxHeartbeats 1600000 in
theorem textFrom_calls (v : Value) (m : List (List Int)) (y : Bool) (w : World) (hy : y = true ↔ tfP m) (hT : Gf.Tab w) (h : RdM w v m) :
    Calls Tryz.prog 154 #[v] w fun e w' => e = .returned (.tuple #[.string (tfR m y).1, .bool (tfR m y).2]) ∧ Below w.heap.size w w' := by
  have R := hide h
  have T := hide hT
  have HY := hide hy
  obtain ⟨a, cap, rfl, m1, ⟨m2, m2'⟩, m3⟩ := h
  clear hT hy m3
  have C1 := hide (fun W v h => areAllLong_calls v m 16 W h)
  have C2 := hide (fun W v hT h => checkPieces_calls 3 2 v m W hT h)
  by_cases hok : tfOk m = true
  case neg =>
    have er : tfR m y = (⟨#[]⟩, false) := if_neg (fun h => hok h.1)
    rw [er]
    have NB : Hid ((m.all fun r : List Int => decide ((r.length : Int) = 16)) = true → (chkR 3 2 m).1 = false) := fun h1 => by
      cases hc : (chkR 3 2 m).1 with
      | false => rfl
      | true => exact absurd (tf_back h1 hc) hok
    clear er hok
    generalize (m.all fun r : List Int => decide ((r.length : Int) = 16)) = g1 at C1 NB
    generalize (chkR 3 2 m).1 = g2 at C2 NB
    generalize (chkR 3 2 m).2 = g3 at C2
    cases g1 with
    | false =>
      go_enter Tryz.func154, Tryz.ntmps154
      go_wp2_with fail
      refine (C1.out _ _ R.out).mono ?_
      rintro e w1 ⟨rfl, q⟩
      have B1 := hide q
      clear q
      go_wp2
      go_ret2
      exact ⟨rfl, B1.out⟩
    | true =>
      obtain rfl := NB.out rfl
      go_enter Tryz.func154, Tryz.ntmps154
      go_wp2_with fail
      refine (C1.out _ _ R.out).mono ?_
      rintro e w1 ⟨rfl, q⟩
      have B1 := hide q
      clear q
      go_wp2_with fail
      refine (C2.out _ _ (Gf.Tab.below T.out B1.out) (R.out.below B1.out)).mono ?_
      rintro e w2 ⟨rfl, q⟩
      have B2 := hide (B1.out.trans (q.mono B1.out.size))
      clear q
      go_wp2
      go_ret2
      exact ⟨rfl, B2.out⟩
  obtain ⟨r16, hck⟩ := tf_r16 hok
  have hall := tf_all hok
  rw [hall] at C1
  rw [hck] at C2
  have c5 : (3 : Int) ≤ (cap : Int) := by have := r16.len; omega
  have RT := hide (rdM_take R.out 3 (by rw [r16.len]; omega))
  rw [← map3 r16] at RT
  have C3 := hide (fun W hh => eachBody_calls (.slice a 3 cap) [nat (m.getD 0 []), nat (m.getD 1 []), nat (m.getD 2 [])] W hh (fun i hi => by
    have h3 : i < 3 := by simpa using hi
    match i, h3 with
    | 0, _ => exact ⟨(r16.nats 0 (by omega)).2.1, by show (nat (m.getD 0 [])).length ≤ 4096; rw [(r16.nats 0 (by omega)).1]; omega⟩
    | 1, _ => exact ⟨(r16.nats 1 (by omega)).2.1, by show (nat (m.getD 1 [])).length ≤ 4096; rw [(r16.nats 1 (by omega)).1]; omega⟩
    | 2, _ => exact ⟨(r16.nats 2 (by omega)).2.1, by show (nat (m.getD 2 [])).length ≤ 4096; rw [(r16.nats 2 (by omega)).1]; omega⟩) (by simp))
  have C4 := hide (fun W v hv => joinBody_calls v ([nat (m.getD 0 []), nat (m.getD 1 []), nat (m.getD 2 [])].map ofN) W hv)
  rw [tf_join r16] at C4
  have OS : Hid (∀ s ∈ ([nat (m.getD 0 []), nat (m.getD 1 []), nat (m.getD 2 [])].map ofN), s.size ≤ maxLen) := by
    show ∀ s ∈ _, _
    intro s hs
    simp only [List.map_cons, List.map_nil, List.mem_cons, List.not_mem_nil, or_false] at hs
    rcases hs with rfl | rfl | rfl
    · rw [ofN_size, (r16.nats 0 (by omega)).1]; unfold maxLen; omega
    · rw [ofN_size, (r16.nats 1 (by omega)).1]; unfold maxLen; omega
    · rw [ofN_size, (r16.nats 2 (by omega)).1]; unfold maxLen; omega
  generalize [nat (m.getD 0 []), nat (m.getD 1 []), nat (m.getD 2 [])] = mm at RT C3 C4 OS
  have EXT := hide (ext_mid (tfL m) 1 (1 + tfN m))
  have BKK := hide (fun hn => tf_blk r16 hn)
  have BSB := hide (bs_ofN r16.small)
  have TZ : Hid ((ofN (tfL m)).size = 48) := by show _ = _; rw [ofN_size, r16.len48]
  generalize ofN (tfL m) = BB at EXT BKK BSB TZ C4
  have z0 : 0 < BB.size := by rw [TZ.out]; omega
  have z1 : (0 : Int) < (BB.size : Int) := by omega
  have hb0 : BB[0].toNat = tfN m := by
    have := bs_getD BB 0 z0
    rw [BSB.out] at this
    exact this.symm
  have hn256 : tfN m < 256 := by rw [← hb0]; exact BB[0].toNat_lt
  have e2 : 1 + tfN m - 1 = tfN m := by omega
  rw [e2] at EXT
  by_cases hn : tfN m ≤ 47
  case neg =>
    have yf : y = false := by
      cases y with
      | false => rfl
      | true => exact absurd (HY.out.1 rfl).1 hn
    have er : tfR m y = (⟨#[]⟩, false) := if_neg (fun h => by rw [yf] at h; simp at h)
    rw [er]
    clear BKK
    generalize tfN m = n at *
    have hn' : (47 : Int) < (n : Int) := by omega
    clear er hok hck hall r16 e2
    go_enter Tryz.func154, Tryz.ntmps154
    go_wp2_with fail
    refine (C1.out _ _ R.out).mono ?_
    rintro e w1 ⟨rfl, q⟩
    have B1 := hide q
    clear q
    go_wp2_with fail
    refine (C2.out _ _ (Gf.Tab.below T.out B1.out) (R.out.below B1.out)).mono ?_
    rintro e w2 ⟨rfl, q⟩
    have B2 := hide (B1.out.trans (q.mono B1.out.size))
    clear q
    go_wp2_with fail
    refine (C3.out _ (RT.out.below B2.out)).mono ?_
    rintro e w3 ⟨v3, rfl, o3, q⟩
    have B3 := hide (B2.out.trans (q.mono B2.out.size))
    have R3 := hide (OwnT.rd o3 OS.out)
    clear q o3
    go_wp2_with fail
    refine (C4.out _ _ R3.out).mono ?_
    rintro e w4 ⟨rfl, q⟩
    have B4 := hide (B3.out.trans (q.mono B3.out.size))
    clear q
    go_wp2
    go_ret2
    exact ⟨rfl, B4.out⟩
  have TS := hide (tfT_size r16 hn)
  have BK := hide (BKK.out hn)
  have C5 := hide (fun W => blockOf_calls (tfT m) W (by rw [TS.out]; exact hn))
  have EX2 : Hid (BB.extract 1 (1 + tfN m) = tfT m) := EXT.out
  have er : tfR m y = if y = true then (tfT m, true) else (⟨#[]⟩, false) := by
    unfold tfR
    cases y <;> simp [hok]
  rw [er]
  clear BKK
  generalize tfN m = n at *
  generalize tfT m = TT at *
  generalize ofN (blk TT) = CC at *
  have hn' : ¬ (47 : Int) < (n : Int) := by omega
  have i1 : (1 : Int) ≤ 1 + (n : Int) := by omega
  have i2 : 1 + (n : Int) ≤ (BB.size : Int) := by rw [TZ.out]; omega
  clear er hok hck hall r16 e2 EXT BSB
  have YB : Hid (y = true ↔ CC = BB) := ⟨fun h => BK.out.2 (HY.out.1 h), fun h => HY.out.2 (BK.out.1 h)⟩
  clear BK HY
  cases y with
  | true =>
    have ec := YB.out.1 rfl
    rw [if_pos rfl]
    subst ec
    go_enter Tryz.func154, Tryz.ntmps154
    go_wp2_with fail
    refine (C1.out _ _ R.out).mono ?_
    rintro e w1 ⟨rfl, q⟩
    have B1 := hide q
    clear q
    go_wp2_with fail
    refine (C2.out _ _ (Gf.Tab.below T.out B1.out) (R.out.below B1.out)).mono ?_
    rintro e w2 ⟨rfl, q⟩
    have B2 := hide (B1.out.trans (q.mono B1.out.size))
    clear q
    go_wp2_with fail
    refine (C3.out _ (RT.out.below B2.out)).mono ?_
    rintro e w3 ⟨v3, rfl, o3, q⟩
    have B3 := hide (B2.out.trans (q.mono B2.out.size))
    have R3 := hide (OwnT.rd o3 OS.out)
    clear q o3
    go_wp2_with fail
    refine (C4.out _ _ R3.out).mono ?_
    rintro e w4 ⟨rfl, q⟩
    have B4 := hide (B3.out.trans (q.mono B3.out.size))
    clear q
    go_wp2_with fail
    rw [EX2.out]
    refine (C5.out _).mono ?_
    rintro e w5 ⟨rfl, q⟩
    have B5 := hide (B4.out.trans (q.mono B4.out.size))
    clear q
    go_wp2
    go_ret2
    exact ⟨rfl, B5.out⟩
  | false =>
    have ec : ¬ CC = BB := fun h => by have := YB.out.2 h; simp at this
    have ec1 : ¬ CC.toList = BB.toList := fun h => ec (toList_inj h)
    have ec2 : (CC.toList == BB.toList) = false := by simpa using ec1
    rw [if_neg (by simp)]
    go_enter Tryz.func154, Tryz.ntmps154
    go_wp2_with fail
    refine (C1.out _ _ R.out).mono ?_
    rintro e w1 ⟨rfl, q⟩
    have B1 := hide q
    clear q
    go_wp2_with fail
    refine (C2.out _ _ (Gf.Tab.below T.out B1.out) (R.out.below B1.out)).mono ?_
    rintro e w2 ⟨rfl, q⟩
    have B2 := hide (B1.out.trans (q.mono B1.out.size))
    clear q
    go_wp2_with fail
    refine (C3.out _ (RT.out.below B2.out)).mono ?_
    rintro e w3 ⟨v3, rfl, o3, q⟩
    have B3 := hide (B2.out.trans (q.mono B2.out.size))
    have R3 := hide (OwnT.rd o3 OS.out)
    clear q o3
    go_wp2_with fail
    refine (C4.out _ _ R3.out).mono ?_
    rintro e w4 ⟨rfl, q⟩
    have B4 := hide (B3.out.trans (q.mono B3.out.size))
    clear q
    go_wp2_with fail
    rw [EX2.out]
    refine (C5.out _).mono ?_
    rintro e w5 ⟨rfl, q⟩
    have B5 := hide (B4.out.trans (q.mono B4.out.size))
    clear q
    go_wp2
    go_ret2
    exact ⟨rfl, B5.out⟩

theorem toList_eq {s t : ByteArray} (h : s = t) : s.toList = t.toList := by rw [h]

set_option linter.unusedSimpArgs false in
set_option maxRecDepth 100000 in
set_option maxHeartbeats 3200000 in
theorem l8From_calls (v : Value) (m : List (List Int)) (y : Bool) (w : World) (hy : y = true ↔ tfP m) (h : RdM w v m) (r16 : R16 m) :
    Calls Tryz.prog 106 #[v] w fun e w' => e = .returned (.tuple #[.string (if y = true then tfT m else ⟨#[]⟩), .bool y]) ∧ Below w.heap.size w w' := by
  have R := hide h
  have HY := hide hy
  obtain ⟨a, cap, rfl, m1, ⟨m2, m2'⟩, m3⟩ := h
  have c5 : (3 : Int) ≤ (cap : Int) := by have := r16.len; omega
  have RT := hide (rdM_take R.out 3 (by rw [r16.len]; omega))
  have R16h := hide r16
  obtain ⟨f, hf⟩ : ∃ f : Nat → List Nat, f = fun k => (m.take k).flatMap nat := ⟨_, rfl⟩
  have F0 : Hid (f 0 = []) := by show _ = _; rw [hf]; rfl
  have FS : Hid (∀ k, k < 3 → f (k + 1) = f k ++ nat (m.getD k [])) := by
    show ∀ k, _
    intro k hk
    rw [hf]
    show (m.take (k + 1)).flatMap nat = (m.take k).flatMap nat ++ _
    rw [List.take_succ_eq_append_getElem (by rw [r16.len]; omega), List.flatMap_append, List.getD_eq_getElem?_getD, List.getElem?_eq_getElem (by rw [r16.len]; omega)]
    simp
  have F3 : Hid (f 3 = tfL m) := by show _ = _; rw [hf]; rfl
  have FL : Hid (∀ k, k ≤ 3 → (f k).length ≤ 48) := by
    show ∀ k, _
    intro k hk
    have hm := r16.len48
    rw [← F3.out] at hm
    have : k = 0 ∨ k = 1 ∨ k = 2 ∨ k = 3 := by omega
    have e1 := FS.out 0 (by omega)
    have e2 := FS.out 1 (by omega)
    have e3 := FS.out 2 (by omega)
    rw [e3, e2, e1] at hm
    simp only [List.length_append] at hm
    rcases this with rfl | rfl | rfl | rfl
    · rw [F0.out]; simp
    · rw [e1, List.length_append]; omega
    · rw [e2, e1, List.length_append, List.length_append]; omega
    · rw [e3, e2, e1, List.length_append, List.length_append, List.length_append]; omega
  clear hf hy m1 m2 m2' m3
  have EXT := hide (ext_mid (tfL m) 1 (1 + tfN m))
  have e2 : 1 + tfN m - 1 = tfN m := by omega
  rw [e2] at EXT
  have BSB := hide (bs_ofN r16.small)
  have TZ : Hid ((ofN (tfL m)).size = 48) := by show _ = _; rw [ofN_size, r16.len48]
  have EXD : Hid (∀ n, n ≤ 48 → (ofN (tfL m)).extract n (ofN (tfL m)).size = ofN ((tfL m).drop n)) := by
    show ∀ n, _
    intro n hn
    rw [TZ.out]
    exact ext_drop _ n 48 r16.len48.symm
  obtain ⟨RR, hRR⟩ : ∃ RR, RR = (if y = true then tfT m else ⟨#[]⟩) := ⟨_, rfl⟩
  rw [← hRR]
  have HRR := hide hRR
  clear e2 hRR
  go_enter Tryz.func106, Tryz.ntmps106
  go_wp2
  go_loopw [4, 6, 11] (fun vs _ vi wr => ∃ k : Nat, k ≤ 3 ∧ vi = .int .i64 k ∧ vs = .string (ofN (f k)) ∧ Below w.heap.size w wr) (fun _ _ vi _ => 3 - (intOf vi).toNat)
  case atStart => exact ⟨0, Nat.zero_le _, rfl, by rw [F0.out]; rfl, Below.refl _ _⟩
  case round =>
    obtain ⟨k, hk, rfl, rfl, hb⟩ := hrel
    have B0 := hide hb
    by_cases hlt : k < 3
    · have hlt' : (k : Int) < 3 := by omega
      obtain ⟨gb, off, u, hua, _, hc, hu⟩ := (R.out.below hb).rowAt k (by rw [r16.len]; omega)
      subst hua
      obtain ⟨q1, q2, q3⟩ := r16.nats k (by omega)
      rw [← q3] at hu
      have U := hide hu
      have NX : Hid (ofN (f (k + 1)) = ofN (f k) ++ ofN (nat (m.getD k []))) := by show _ = _; rw [ofN_append, FS.out k hlt]
      have C := hide (fun W v hv => l8Text_calls v (nat (m.getD k [])) W hv q2 (by rw [q1]; omega))
      have fsz : (ofN (f k)).size ≤ 48 := by rw [ofN_size]; exact FL.out k hk
      have xsz : (ofN (nat (m.getD k []))).size = 16 := by rw [ofN_size, q1]
      obtain ⟨ua, uc, hu2, _⟩ := hu
      rw [q3, (r16.row k (by omega)).1] at hu2
      subst hu2
      generalize nat (m.getD k []) = z at U NX C xsz
      generalize ofN (f k) = tt at NX fsz ⊢
      clear hb q1 q2 q3
      go_wp2_with fail
      refine (C.out _ _ U.out).mono ?_
      rintro e w1 ⟨rfl, q⟩
      have B1 := hide (B0.out.trans (q.mono B0.out.size))
      clear q hc
      have XS := hide xsz
      have hadd := run_string_add_sum (P := Tryz.prog) (w := w1) tt (ofN z) (by rw [XS.out]; omega)
      generalize ofN z = zz at hadd NX ⊢
      clear xsz XS
      go_wp2
      go_roundw
      case rel => exact ⟨k + 1, by omega, by go_num, by rw [NX.out], B1.out⟩
      case measure => simp [intOf]; omega
    · obtain rfl : k = 3 := by omega
      rw [F3.out]
      obtain ⟨BK, hBK⟩ : ∃ P : Prop, P = ((tfL m).drop (1 + tfN m) = List.replicate (47 - tfN m) 0) := ⟨_, rfl⟩
      have HP : Hid (y = true ↔ (tfN m ≤ 47 ∧ BK)) := by show _ ↔ _; rw [hBK]; exact HY.out
      have EQ : Hid (tfN m ≤ 47 → ((ofN (tfL m)).extract (1 + tfN m) (ofN (tfL m)).size = zst (47 - tfN m) ↔ BK)) := by
        intro hn
        rw [EXD.out _ (by omega), hBK]
        constructor
        · intro e
          have := congrArg bs e
          rw [bs_zst, bs_ofN (fun b hb => r16.small b (List.mem_of_mem_drop hb))] at this
          exact this
        · intro e
          apply bs_inj
          rw [bs_zst, bs_ofN (fun b hb => r16.small b (List.mem_of_mem_drop hb))]
          exact e
      have EX2 : Hid ((ofN (tfL m)).extract 1 (1 + tfN m) = tfT m) := EXT.out
      clear hb EXT EXD HY hBK
      generalize ofN (tfL m) = BB at *
      have z0 : 0 < BB.size := by rw [TZ.out]; omega
      have z1 : (0 : Int) < (BB.size : Int) := by omega
      have hb0 : BB[0].toNat = tfN m := by
        have := bs_getD BB 0 z0
        rw [BSB.out] at this
        exact this.symm
      have hn256 : tfN m < 256 := by rw [← hb0]; exact BB[0].toNat_lt
      generalize tfN m = n at *
      clear BSB
      by_cases hn : n ≤ 47
      · have hn' : ¬ (47 : Int) < (n : Int) := by omega
        have hnd : decide ((47 : Int) < (n : Int)) = false := decide_eq_false hn'
        have i1 : (1 : Int) ≤ 1 + (n : Int) := by omega
        have i2 : 1 + (n : Int) ≤ (BB.size : Int) := by rw [TZ.out]; omega
        have i0 : (0 : Int) ≤ 1 + (n : Int) := by omega
        have t0 : (1 + (n : Int)).toNat = 1 + n := by omega
        have hmk : ∀ W : World, (Instr.makeSlice 56 (.int .i64 (47 - (n : Int))) (.int .i64 (47 - (n : Int)))).run Tryz.prog W = .ok (.slice (some ⟨W.heap.size, 0, none⟩) (47 - n) (47 - n)) (W.alloc (.cells (madeCells #[.int .u8 0] (47 - n)) 5)) := by
          intro W
          have e1 : (47 - (n : Int)) = ((47 - n : Nat) : Int) := by omega
          rw [e1]
          exact run_make_row' (P := Tryz.prog) 56 5 (.int .u8 0) 1 Tryz.underlying56 infoByte rfl .i64 .i64 (47 - n) (by omega) (by omega) W
        have hw1 : IntKind.i64.wrap (47 - (n : Int)) = 47 - (n : Int) := by rw [IntKind.wrap_i64]; omega
        have hw2 : IntKind.i64.wrap (1 + (n : Int)) = 1 + (n : Int) := by rw [IntKind.wrap_i64]; omega
        obtain ⟨XX, hXX⟩ : ∃ XX, XX = BB.extract (1 + n) BB.size := ⟨_, rfl⟩
        have EQ2 : Hid (XX = zst (47 - n) ↔ BK) := by show _ ↔ _; rw [hXX]; exact EQ.out hn
        have hXX' := hXX.symm
        clear hXX EQ
        cases y with
        | true =>
          have eq1 := EQ2.out.2 (HP.out.1 rfl).2
          have er : RR = tfT m := by rw [HRR.out, if_pos rfl]
          subst er
          have eq2 := toList_eq eq1
          clear EQ2 HP HRR eq1
          go_wp2
          refine wp_region_noPanic ?_
          refine wp_region_held_drew (S := fun _ => True) (by kernel_rfl) (trivial) (fun hHeld => ?_)
          have S0 := hide (B0.out.drew)
          generalize wr.drew = W0 at S0 hHeld ⊢
          refine wpAnyH_take (i := 0) (v := ?v1) rfl (by kernel_rfl) (by kernel_rfl) (by kernel_rfl) (fun _ _ _ h => h) (Or.inl ⟨by rfl, ?hy1⟩) (by assumption) ?rest1
          case hy1 => (intro w' hSw; dsimp only [List.getElem_toArray, List.getElem_cons_zero, List.getElem_cons_succ] at hSw ⊢; go_simp; try (with_reducible rfl))
          try simp only [Act.put, List.getElem_toArray, List.getElem_cons_zero, List.getElem_cons_succ, List.setIfInBounds_toArray, List.set_cons_zero, List.set_cons_succ]
          refine wpAnyH_take (i := 1) (v := ?v2) rfl (by kernel_rfl) (by kernel_rfl) (by kernel_rfl) (fun _ _ _ h => h) (Or.inl ⟨by rfl, ?hy2⟩) (by assumption) ?rest2
          case hy2 => (intro w' hSw; dsimp only [List.getElem_toArray, List.getElem_cons_zero, List.getElem_cons_succ] at hSw ⊢; go_simp; try (with_reducible rfl))
          try simp only [Act.put, List.getElem_toArray, List.getElem_cons_zero, List.getElem_cons_succ, List.setIfInBounds_toArray, List.set_cons_zero, List.set_cons_succ]
          refine wpAnyH_take (i := 2) (v := ?v3) rfl (by kernel_rfl) (by kernel_rfl) (by kernel_rfl) (fun _ _ _ h => h) (Or.inl ⟨by rfl, ?hy3⟩) (by assumption) ?rest3
          case hy3 => (intro w' hSw; dsimp only [List.getElem_toArray, List.getElem_cons_zero, List.getElem_cons_succ] at hSw ⊢; go_simp; try (with_reducible rfl))
          try simp only [Act.put, List.getElem_toArray, List.getElem_cons_zero, List.getElem_cons_succ, List.setIfInBounds_toArray, List.set_cons_zero, List.set_cons_succ]
          refine wpAnyH_take (i := 3) (v := ?v4) rfl (by kernel_rfl) (by kernel_rfl) (by kernel_rfl) (fun _ _ _ h => h) (Or.inl ⟨by rfl, ?hy4⟩) (by assumption) ?rest4
          case hy4 => (intro w' hSw; dsimp only [List.getElem_toArray, List.getElem_cons_zero, List.getElem_cons_succ] at hSw ⊢; go_simp; try (with_reducible rfl))
          try simp only [Act.put, List.getElem_toArray, List.getElem_cons_zero, List.getElem_cons_succ, List.setIfInBounds_toArray, List.set_cons_zero, List.set_cons_succ]
          refine wpAnyH_take (i := 4) (v := ?v5) rfl (by kernel_rfl) (by kernel_rfl) (by kernel_rfl) (fun _ _ _ h => h) (Or.inl ⟨by rfl, ?hy5⟩) (by assumption) ?rest5
          case hy5 => (intro w' hSw; dsimp only [List.getElem_toArray, List.getElem_cons_zero, List.getElem_cons_succ] at hSw ⊢; go_simp; try (with_reducible rfl))
          try simp only [Act.put, List.getElem_toArray, List.getElem_cons_zero, List.getElem_cons_succ, List.setIfInBounds_toArray, List.set_cons_zero, List.set_cons_succ]
          refine wpAnyH_take (i := 5) (v := ?v6) rfl (by kernel_rfl) (by kernel_rfl) (by kernel_rfl) (fun _ _ _ h => h) (Or.inl ⟨by rfl, ?hy6⟩) (by assumption) ?rest6
          case hy6 => (intro w' hSw; dsimp only [List.getElem_toArray, List.getElem_cons_zero, List.getElem_cons_succ] at hSw ⊢; go_simp; try (with_reducible rfl))
          try simp only [Act.put, List.getElem_toArray, List.getElem_cons_zero, List.getElem_cons_succ, List.setIfInBounds_toArray, List.set_cons_zero, List.set_cons_succ]
          refine wpAnyH_take (i := 6) (v := ?v7) rfl (by kernel_rfl) (by kernel_rfl) (by kernel_rfl) (fun _ _ _ h => h) (Or.inl ⟨by rfl, ?hy7⟩) (by assumption) ?rest7
          case hy7 => (intro w' hSw; dsimp only [List.getElem_toArray, List.getElem_cons_zero, List.getElem_cons_succ] at hSw ⊢; go_simp; try (with_reducible rfl))
          try simp only [Act.put, List.getElem_toArray, List.getElem_cons_zero, List.getElem_cons_succ, List.setIfInBounds_toArray, List.set_cons_zero, List.set_cons_succ]
          refine wpAnyH_take (i := 7) (v := ?v8) rfl (by kernel_rfl) (by kernel_rfl) (by kernel_rfl) (fun _ _ _ h => h) (Or.inl ⟨by rfl, ?hy8⟩) (by assumption) ?rest8
          case hy8 => (intro w' hSw; dsimp only [List.getElem_toArray, List.getElem_cons_zero, List.getElem_cons_succ] at hSw ⊢; go_simp; try (with_reducible rfl))
          try simp only [Act.put, List.getElem_toArray, List.getElem_cons_zero, List.getElem_cons_succ, List.setIfInBounds_toArray, List.set_cons_zero, List.set_cons_succ]
          refine wpAnyH_take (i := 8) (v := ?v9) rfl (by kernel_rfl) (by kernel_rfl) (by kernel_rfl) (fun _ _ _ h => h) (Or.inl ⟨by rfl, ?hy9⟩) (by assumption) ?rest9
          case hy9 => (intro w' hSw; dsimp only [List.getElem_toArray, List.getElem_cons_zero, List.getElem_cons_succ] at hSw ⊢; go_simp; try (with_reducible rfl))
          try simp only [Act.put, List.getElem_toArray, List.getElem_cons_zero, List.getElem_cons_succ, List.setIfInBounds_toArray, List.set_cons_zero, List.set_cons_succ]
          refine wpAnyH_ready (rs := [9]) (by kernel_rfl) (by simp) ?_
          refine AllReadyH.cons rfl (fun K hK => ?_) AllReadyH.nil
          dsimp only [List.getElem_toArray, List.getElem_cons_zero, List.getElem_cons_succ]
          go_simp
          refine hK.out _ _ trivial (fun hHeld => ?_)
          clear hK K hHeld
          refine wpAnyH_imp (S' := fun w' => True ∧ (convert 56 9 (.slice (some ⟨W0.heap.size, 0, none⟩) (47 - n) (47 - n))).run Tryz.prog w' = .ok (.string (zst (47 - n))) w') (fun _ h => h.1) _ _ _ _ ?_
          have MM := hide (Below.refl (W0.alloc (.cells (madeCells #[.int .u8 0] (47 - n)) 5)).heap.size (W0.alloc (.cells (madeCells #[.int .u8 0] (47 - n)) 5)))
          have SM := hide (S0.out.alloc S0.out.size (.cells (madeCells #[.int .u8 0] (47 - n)) 5))
          have hHeld : (fun w' : World => True ∧ (convert 56 9 (.slice (some ⟨W0.heap.size, 0, none⟩) (47 - n) (47 - n))).run Tryz.prog w' = .ok (.string (zst (47 - n))) w') (W0.alloc (.cells (madeCells #[.int .u8 0] (47 - n)) 5)) := ⟨trivial, conv_zst (47 - n) _ _ MM.out⟩
          try simp only [Act.put, List.getElem_toArray, List.getElem_cons_zero, List.getElem_cons_succ, List.setIfInBounds_toArray, List.set_cons_zero, List.set_cons_succ]
          refine wpAnyH_take (i := 10) (v := ?v10) rfl (by kernel_rfl) (by kernel_rfl) (by kernel_rfl) (fun _ _ _ h => h) (Or.inl ⟨by rfl, ?hy10⟩) (by assumption) ?rest10
          case hy10 => (intro w' hSw; dsimp only [List.getElem_toArray, List.getElem_cons_zero, List.getElem_cons_succ] at hSw ⊢; go_simp; try (with_reducible rfl))
          try simp only [Act.put, List.getElem_toArray, List.getElem_cons_zero, List.getElem_cons_succ, List.setIfInBounds_toArray, List.set_cons_zero, List.set_cons_succ]
          refine wpAnyH_take (i := 11) (v := ?v11) rfl (by kernel_rfl) (by kernel_rfl) (by kernel_rfl) (fun _ _ _ h => h) (Or.inl ⟨by rfl, ?hy11⟩) (by assumption) ?rest11
          case hy11 => (intro w' hSw; dsimp only [List.getElem_toArray, List.getElem_cons_zero, List.getElem_cons_succ] at hSw ⊢; go_simp; try (with_reducible rfl))
          try simp only [Act.put, List.getElem_toArray, List.getElem_cons_zero, List.getElem_cons_succ, List.setIfInBounds_toArray, List.set_cons_zero, List.set_cons_succ]
          refine wpAnyH_take (i := 12) (v := ?v12) rfl (by kernel_rfl) (by kernel_rfl) (by kernel_rfl) (fun _ _ _ h => h) (Or.inl ⟨by rfl, ?hy12⟩) (by assumption) ?rest12
          case hy12 => (intro w' hSw; dsimp only [List.getElem_toArray, List.getElem_cons_zero, List.getElem_cons_succ] at hSw ⊢; go_simp; try (with_reducible rfl))
          try simp only [Act.put, List.getElem_toArray, List.getElem_cons_zero, List.getElem_cons_succ, List.setIfInBounds_toArray, List.set_cons_zero, List.set_cons_succ]
          refine wpAnyH_done (by kernel_rfl) ?_ _
          refine NoPanic.normal ?_
          clear hHeld
          go_wp2
          go_ret2
          exact ⟨by first | rfl | (rw [EX2.out]; rfl), SM.out⟩
        | false =>
          have nb : ¬ XX = zst (47 - n) := fun h => by have := HP.out.2 ⟨hn, EQ2.out.1 h⟩; simp at this
          have nb1 : ¬ XX.toList = (zst (47 - n)).toList := fun h => nb (toList_inj h)
          have nb2 : (XX.toList == (zst (47 - n)).toList) = false := by simpa using nb1
          have er : RR = ⟨#[]⟩ := by rw [HRR.out, if_neg (by simp)]
          subst er
          clear EQ2 HP HRR nb
          go_wp2
          refine wp_region_noPanic ?_
          refine wp_region_held_drew (S := fun _ => True) (by kernel_rfl) (trivial) (fun hHeld => ?_)
          have S0 := hide (B0.out.drew)
          generalize wr.drew = W0 at S0 hHeld ⊢
          refine wpAnyH_take (i := 0) (v := ?v13) rfl (by kernel_rfl) (by kernel_rfl) (by kernel_rfl) (fun _ _ _ h => h) (Or.inl ⟨by rfl, ?hy13⟩) (by assumption) ?rest13
          case hy13 => (intro w' hSw; dsimp only [List.getElem_toArray, List.getElem_cons_zero, List.getElem_cons_succ] at hSw ⊢; go_simp; try (with_reducible rfl))
          try simp only [Act.put, List.getElem_toArray, List.getElem_cons_zero, List.getElem_cons_succ, List.setIfInBounds_toArray, List.set_cons_zero, List.set_cons_succ]
          refine wpAnyH_take (i := 1) (v := ?v14) rfl (by kernel_rfl) (by kernel_rfl) (by kernel_rfl) (fun _ _ _ h => h) (Or.inl ⟨by rfl, ?hy14⟩) (by assumption) ?rest14
          case hy14 => (intro w' hSw; dsimp only [List.getElem_toArray, List.getElem_cons_zero, List.getElem_cons_succ] at hSw ⊢; go_simp; try (with_reducible rfl))
          try simp only [Act.put, List.getElem_toArray, List.getElem_cons_zero, List.getElem_cons_succ, List.setIfInBounds_toArray, List.set_cons_zero, List.set_cons_succ]
          refine wpAnyH_take (i := 2) (v := ?v15) rfl (by kernel_rfl) (by kernel_rfl) (by kernel_rfl) (fun _ _ _ h => h) (Or.inl ⟨by rfl, ?hy15⟩) (by assumption) ?rest15
          case hy15 => (intro w' hSw; dsimp only [List.getElem_toArray, List.getElem_cons_zero, List.getElem_cons_succ] at hSw ⊢; go_simp; try (with_reducible rfl))
          try simp only [Act.put, List.getElem_toArray, List.getElem_cons_zero, List.getElem_cons_succ, List.setIfInBounds_toArray, List.set_cons_zero, List.set_cons_succ]
          refine wpAnyH_take (i := 3) (v := ?v16) rfl (by kernel_rfl) (by kernel_rfl) (by kernel_rfl) (fun _ _ _ h => h) (Or.inl ⟨by rfl, ?hy16⟩) (by assumption) ?rest16
          case hy16 => (intro w' hSw; dsimp only [List.getElem_toArray, List.getElem_cons_zero, List.getElem_cons_succ] at hSw ⊢; go_simp; try (with_reducible rfl))
          try simp only [Act.put, List.getElem_toArray, List.getElem_cons_zero, List.getElem_cons_succ, List.setIfInBounds_toArray, List.set_cons_zero, List.set_cons_succ]
          refine wpAnyH_take (i := 4) (v := ?v17) rfl (by kernel_rfl) (by kernel_rfl) (by kernel_rfl) (fun _ _ _ h => h) (Or.inl ⟨by rfl, ?hy17⟩) (by assumption) ?rest17
          case hy17 => (intro w' hSw; dsimp only [List.getElem_toArray, List.getElem_cons_zero, List.getElem_cons_succ] at hSw ⊢; go_simp; try (with_reducible rfl))
          try simp only [Act.put, List.getElem_toArray, List.getElem_cons_zero, List.getElem_cons_succ, List.setIfInBounds_toArray, List.set_cons_zero, List.set_cons_succ]
          refine wpAnyH_take (i := 5) (v := ?v18) rfl (by kernel_rfl) (by kernel_rfl) (by kernel_rfl) (fun _ _ _ h => h) (Or.inl ⟨by rfl, ?hy18⟩) (by assumption) ?rest18
          case hy18 => (intro w' hSw; dsimp only [List.getElem_toArray, List.getElem_cons_zero, List.getElem_cons_succ] at hSw ⊢; go_simp; try (with_reducible rfl))
          try simp only [Act.put, List.getElem_toArray, List.getElem_cons_zero, List.getElem_cons_succ, List.setIfInBounds_toArray, List.set_cons_zero, List.set_cons_succ]
          refine wpAnyH_take (i := 6) (v := ?v19) rfl (by kernel_rfl) (by kernel_rfl) (by kernel_rfl) (fun _ _ _ h => h) (Or.inl ⟨by rfl, ?hy19⟩) (by assumption) ?rest19
          case hy19 => (intro w' hSw; dsimp only [List.getElem_toArray, List.getElem_cons_zero, List.getElem_cons_succ] at hSw ⊢; go_simp; try (with_reducible rfl))
          try simp only [Act.put, List.getElem_toArray, List.getElem_cons_zero, List.getElem_cons_succ, List.setIfInBounds_toArray, List.set_cons_zero, List.set_cons_succ]
          refine wpAnyH_take (i := 7) (v := ?v20) rfl (by kernel_rfl) (by kernel_rfl) (by kernel_rfl) (fun _ _ _ h => h) (Or.inl ⟨by rfl, ?hy20⟩) (by assumption) ?rest20
          case hy20 => (intro w' hSw; dsimp only [List.getElem_toArray, List.getElem_cons_zero, List.getElem_cons_succ] at hSw ⊢; go_simp; try (with_reducible rfl))
          try simp only [Act.put, List.getElem_toArray, List.getElem_cons_zero, List.getElem_cons_succ, List.setIfInBounds_toArray, List.set_cons_zero, List.set_cons_succ]
          refine wpAnyH_take (i := 8) (v := ?v21) rfl (by kernel_rfl) (by kernel_rfl) (by kernel_rfl) (fun _ _ _ h => h) (Or.inl ⟨by rfl, ?hy21⟩) (by assumption) ?rest21
          case hy21 => (intro w' hSw; dsimp only [List.getElem_toArray, List.getElem_cons_zero, List.getElem_cons_succ] at hSw ⊢; go_simp; try (with_reducible rfl))
          try simp only [Act.put, List.getElem_toArray, List.getElem_cons_zero, List.getElem_cons_succ, List.setIfInBounds_toArray, List.set_cons_zero, List.set_cons_succ]
          refine wpAnyH_ready (rs := [9]) (by kernel_rfl) (by simp) ?_
          refine AllReadyH.cons rfl (fun K hK => ?_) AllReadyH.nil
          dsimp only [List.getElem_toArray, List.getElem_cons_zero, List.getElem_cons_succ]
          go_simp
          refine hK.out _ _ trivial (fun hHeld => ?_)
          clear hK K hHeld
          refine wpAnyH_imp (S' := fun w' => True ∧ (convert 56 9 (.slice (some ⟨W0.heap.size, 0, none⟩) (47 - n) (47 - n))).run Tryz.prog w' = .ok (.string (zst (47 - n))) w') (fun _ h => h.1) _ _ _ _ ?_
          have MM := hide (Below.refl (W0.alloc (.cells (madeCells #[.int .u8 0] (47 - n)) 5)).heap.size (W0.alloc (.cells (madeCells #[.int .u8 0] (47 - n)) 5)))
          have SM := hide (S0.out.alloc S0.out.size (.cells (madeCells #[.int .u8 0] (47 - n)) 5))
          have hHeld : (fun w' : World => True ∧ (convert 56 9 (.slice (some ⟨W0.heap.size, 0, none⟩) (47 - n) (47 - n))).run Tryz.prog w' = .ok (.string (zst (47 - n))) w') (W0.alloc (.cells (madeCells #[.int .u8 0] (47 - n)) 5)) := ⟨trivial, conv_zst (47 - n) _ _ MM.out⟩
          try simp only [Act.put, List.getElem_toArray, List.getElem_cons_zero, List.getElem_cons_succ, List.setIfInBounds_toArray, List.set_cons_zero, List.set_cons_succ]
          refine wpAnyH_take (i := 10) (v := ?v22) rfl (by kernel_rfl) (by kernel_rfl) (by kernel_rfl) (fun _ _ _ h => h) (Or.inl ⟨by rfl, ?hy22⟩) (by assumption) ?rest22
          case hy22 => (intro w' hSw; dsimp only [List.getElem_toArray, List.getElem_cons_zero, List.getElem_cons_succ] at hSw ⊢; go_simp; try (with_reducible rfl))
          try simp only [Act.put, List.getElem_toArray, List.getElem_cons_zero, List.getElem_cons_succ, List.setIfInBounds_toArray, List.set_cons_zero, List.set_cons_succ]
          refine wpAnyH_take (i := 11) (v := ?v23) rfl (by kernel_rfl) (by kernel_rfl) (by kernel_rfl) (fun _ _ _ h => h) (Or.inl ⟨by rfl, ?hy23⟩) (by assumption) ?rest23
          case hy23 => (intro w' hSw; dsimp only [List.getElem_toArray, List.getElem_cons_zero, List.getElem_cons_succ] at hSw ⊢; go_simp; try (with_reducible rfl))
          try simp only [Act.put, List.getElem_toArray, List.getElem_cons_zero, List.getElem_cons_succ, List.setIfInBounds_toArray, List.set_cons_zero, List.set_cons_succ]
          refine wpAnyH_take (i := 12) (v := ?v24) rfl (by kernel_rfl) (by kernel_rfl) (by kernel_rfl) (fun _ _ _ h => h) (Or.inl ⟨by rfl, ?hy24⟩) (by assumption) ?rest24
          case hy24 => (intro w' hSw; dsimp only [List.getElem_toArray, List.getElem_cons_zero, List.getElem_cons_succ] at hSw ⊢; go_simp; try (with_reducible rfl))
          try simp only [Act.put, List.getElem_toArray, List.getElem_cons_zero, List.getElem_cons_succ, List.setIfInBounds_toArray, List.set_cons_zero, List.set_cons_succ]
          refine wpAnyH_done (by kernel_rfl) ?_ _
          refine NoPanic.normal ?_
          clear hHeld
          go_wp2
          go_ret2
          exact ⟨rfl, SM.out⟩
      · have hn' : (47 : Int) < (n : Int) := by omega
        have hnd : decide ((47 : Int) < (n : Int)) = true := decide_eq_true hn'
        have yf : y = false := by
          cases y with
          | false => rfl
          | true => exact absurd (HP.out.1 rfl).1 hn
        subst yf
        have er : RR = ⟨#[]⟩ := by rw [HRR.out, if_neg (by simp)]
        subst er
        clear HP HRR EQ
        go_wp2
        go_quiet (fail)
        go_wp2
        go_ret2
        exact ⟨rfl, below_drewN B0.out nq⟩

end Go.Proofs.YtbgadbokejaomaaGreatDoor

/-
  What is kept goes to the plate through a channel: the program's putOnPlate, call by call, by the machine's own steps. The contract says what it asks. What is kept goes to the plate through a channel: the program's putOnPlate as a whole. The contract says what it asks. A crash, on a disk of the call's own: the program's, call by call. The contract says what it asks. Behind a crash: the program's AfterCrash and its model's, call by call. Each contract says what it asks.
-/
import Derived.Test.YtpgmocogffolaaaGoodJournalB16
import Derived.Conc.LoneCalls
import Derived.Conc.LoneSelect
import Derived.Lib.SliceRun
namespace Go.Proofs.Ytpgmocogffolaaa
open Go.RowKit Go.Conc
set_option linter.unusedVariables false

def cSeq1 : Code → Code | .seq x _ => x | c => c
def cSeq2 : Code → Code | .seq _ y => y | c => c
def cBlk : Code → Code | .block _ c => c | c => c
def cLoop : Code → Code | .loop c => c | c => c
/-- The pieces of the function's own text. -/
def plT (c : Code) : Code := cSeq2 (cSeq2 c)
def plB2 (c : Code) : Code := cSeq2 (plT c)
def plL1 (c : Code) : Code := cLoop (cBlk (cSeq2 (cSeq1 (plT c))))
def plL2 (c : Code) : Code := cLoop (cBlk (plB2 c))

/-- What is sent for the places from j on. -/
def msg (H : List ByteArray) (x : Int) : Value := .agg #[.int .i64 x, .string (H.getD x.toNat ⟨#[]⟩)]
def msgs (H : List ByteArray) (ks : List Int) : Array Value := (ks.map (msg H)).toArray
theorem crP_snoc (P H : List ByteArray) (ks : List Int) (j k : Nat) (hj : j < ks.length) (hk : ks.getD j 0 = (k : Int)) (hkP : k < P.length) : (crP P H (ks.take j)).set k (H.getD k ⟨#[]⟩) = crP P H (ks.take (j + 1)) := by
  have hmem : ∀ i : Nat, (i : Int) ∈ ks.take (j + 1) ↔ (i = k ∨ (i : Int) ∈ ks.take j) := by
    intro i
    rw [List.take_succ_eq_append_getElem hj, List.mem_append, List.mem_singleton]
    have e : ks[j] = (k : Int) := by rw [← hk, List.getD_eq_getElem?_getD, List.getElem?_eq_getElem hj, Option.getD_some]
    rw [e]
    constructor
    · rintro (h | h)
      · exact .inr h
      · exact .inl (by omega)
    · rintro (h | h)
      · exact .inr (by omega)
      · exact .inl h
  unfold crP
  refine ext_getD (by rw [List.length_set, crPk_len, crPk_len]) fun i hi => ?_
  rw [List.length_set, crPk_len] at hi
  rw [getD_setT _ _ _ _ (by rw [crPk_len]; exact hkP), crPk_at P H _ _ i hi, crPk_at P H _ _ i hi]
  by_cases e : i = k
  · subst e; rw [if_pos rfl, if_pos ⟨hi, (hmem i).2 (.inl rfl)⟩]
  · rw [if_neg e]
    by_cases h2 : i < P.length ∧ (i : Int) ∈ ks.take j
    · rw [if_pos h2, if_pos ⟨hi, (hmem i).2 (.inr h2.2)⟩]
    · rw [if_neg h2, if_neg (fun h3 => h2 ⟨hi, ((hmem i).1 h3.2).resolve_left e⟩)]
theorem crP_nil (P H : List ByteArray) : crP P H [] = P := by
  refine ext_getD (crPk_len _ _ _ _) fun i hi => ?_
  unfold crP at *
  rw [crPk_len] at hi
  rw [crPk_at P H [] _ i hi, if_neg (fun h => by simp at h)]

theorem Chg.ofSetChan {lo hi : Nat} (w : World) (c cap : Nat) (buf : Array Value) (cl : Bool) (s r : Nat) (tm : Bool) (h1 : lo ≤ c) (h2 : c < hi) : Chg lo hi w (w.setChan c cap buf cl s r tm) := by
  refine ⟨rfl, rfl, rfl, by simp [World.setChan], fun k hk ho => ?_⟩
  simp only [World.setChan]
  rw [Array.getElem?_setIfInBounds_ne (by omega)]
theorem msgs_cons (H : List ByteArray) (x : Int) (l : List Int) : 0 < (msgs H (x :: l)).size ∧ (msgs H (x :: l)).getD 0 undef = msg H x ∧ (msgs H (x :: l)).extract 1 (msgs H (x :: l)).size = msgs H l := by
  refine ⟨by simp [msgs], by simp [msgs], ?_⟩
  apply Array.ext'
  simp [msgs, List.take_of_length_le]

set_option maxRecDepth 100000 in
set_option maxHeartbeats 1600000 in
theorem pl_loop2 (R : Ending → World → Prop) (gp cp gh ch gb cb n N c : Nat) (v : Value) (P H : List ByteArray) (B : List Bool) (ks : List Int) (lo hi : Nat) (w0 : World) (cs : List Frame)
    (hP : P.length = n) (hH : H.length = n) (hhi : hi ≤ N) (hN : w0.heap.size = N) (hc : c = N + 1) (kr : ∀ i, i < ks.length → 0 ≤ ks.getD i 0 ∧ ks.getD i 0 < (n : Int)) (hn : n ≤ 24)
    (fin : ∀ w', DskV w' lo hi (.slice (some ⟨gp, 0, none⟩) n cp) (.slice (some ⟨gh, 0, none⟩) n ch) (.slice (some ⟨gb, 0, none⟩) n cb) (crP P H ks) H B → Chg lo hi w0 w' → R (.returned (.tuple #[])) w') :
    ∀ (m j : Nat) (w : World) (u3 u5 u6 u7 u8 u9 u10 u11 u12 u13 u14 u15 u16 u17 u18 u19 u20 u21 u22 u23 u24 u25 u26 u27 u28 u29 u30 u31 u32 u33 u34 u35 u36 u37 : Value) (s r : Nat),
      m = ks.length - j → j ≤ ks.length → w.heap[c]? = some (.chan ks.length (msgs H (ks.drop j)) false s r false) → BoxAt w N #[.slice (some ⟨gp, 0, none⟩) n cp, .slice (some ⟨gh, 0, none⟩) n ch, .slice (some ⟨gb, 0, none⟩) n cb] 30 →
      DskV w lo hi (.slice (some ⟨gp, 0, none⟩) n cp) (.slice (some ⟨gh, 0, none⟩) n ch) (.slice (some ⟨gb, 0, none⟩) n cb) (crP P H (ks.take j)) H B → Chg lo hi w0 w →
      LoneTo Try.prog (fun g' w' => ∃ e fr, g' = G fr cs ∧ R e w' ∧ fr.fn = 153 ∧ fr.leaving Try.prog w' e)
        (G ((base 153).at ⟨#[.agg #[.slice (some ⟨gp, 0, none⟩) n cp, .slice (some ⟨gh, 0, none⟩) n ch, .slice (some ⟨gb, 0, none⟩) n cb], v, .pointer (some ⟨N, 0, none⟩), u3, .chan (some c), u5, u6, u7, u8, u9, u10, u11, u12, u13, u14, u15, u16, u17, u18, u19, u20, u21, u22, u23, u24, u25, u26, u27, u28, u29, u30, u31, u32, u33, u34, u35, u36, u37], []⟩ [.code (plL2 (Try.f153.body.getD .skip)), .inLoop (plL2 (Try.f153.body.getD .skip)), .inBlock 2]) cs) w := by
  have LP := hide hP
  have LH := hide hH
  have HN := hide hN
  have HC := hide hc
  have KR := hide kr
  have FIN := hide fin
  clear hP hH hN hc kr fin
  intro m
  induction m with
  | zero =>
    intro j w u3 u5 u6 u7 u8 u9 u10 u11 u12 u13 u14 u15 u16 u17 u18 u19 u20 u21 u22 u23 u24 u25 u26 u27 u28 u29 u30 u31 u32 u33 u34 u35 u36 u37 s r hm hj hch hbox hd hchg
    obtain rfl : j = ks.length := by omega
    rw [List.take_length] at hd
    rw [List.drop_length] at hch
    have CH := hide hch
    have BX := hide hbox
    have DD := hide hd
    have CG := hide hchg
    clear hm hj hch hbox hd hchg
    refine LoneTo.goes (n := 7) ?_
    simp only [plL2, plB2, plT, cSeq2, cBlk, cLoop, Try.f153, Option.getD_some]
    s_c stepG_block
    s_c stepG_seq
    s_reg
    s_op
    s_c stepG_region_end
    s_c stepG_seq
    s_reg
    s_stop
    refine LoneTo.step (step_lone_select_default (c := c) (z := .agg #[.int .i64 0, .string ⟨#[]⟩]) (cap := ks.length) (s := s) (r := r) (tm := false) (stepG_comm (cases := #[rcase c (.agg #[.int .i64 0, .string ⟨#[]⟩])]) (blocking := false) (shape := .select) (w' := w) rfl rfl (by decide) (by simp [go_sem, execOp, rcase, Act.eval])) CH.out) ?_
    rw [Frame.finish_at]
    walk_nrm
    refine LoneTo.goes (n := 6) ?_
    s_op
    s_op
    s_c stepG_region_end
    s_c stepG_block
    s_cond false
    s_c stepG_ret'
    s_stop
    exact LoneTo.done ⟨.returned (.tuple #[]), _, rfl, FIN.out _ DD.out CG.out, rfl, rfl, rfl, rfl, _, Try.func153, by simp [results, Try.f153]⟩
  | succ m ih =>
    intro j w u3 u5 u6 u7 u8 u9 u10 u11 u12 u13 u14 u15 u16 u17 u18 u19 u20 u21 u22 u23 u24 u25 u26 u27 u28 u29 u30 u31 u32 u33 u34 u35 u36 u37 s r hm hj hch hbox hd hchg
    have IH := hide ih
    have hjl : j < ks.length := by omega
    obtain ⟨k0, k1⟩ := KR.out j hjl
    obtain ⟨k, hk⟩ : ∃ k : Nat, ks.getD j 0 = (k : Int) := ⟨(ks.getD j 0).toNat, by omega⟩
    have hkn : k < n := by omega
    have hdrop : ks.drop j = (k : Int) :: ks.drop (j + 1) := by
      rw [List.drop_eq_getElem_cons hjl, ← hk, List.getD_eq_getElem?_getD, List.getElem?_eq_getElem hjl, Option.getD_some]
    rw [hdrop] at hch
    obtain ⟨q1, q2, q3⟩ := msgs_cons H (k : Int) (ks.drop (j + 1))
    have SN := hide (crP_snoc P H ks j k hjl hk (by rw [LP.out]; exact hkn))
    have hz : (H.getD k ⟨#[]⟩).size ≤ maxLen := by
      have := hd.rh.szAt k
      unfold maxLen
      exact this
    have eM : msg H (k : Int) = .agg #[.int .i64 (k : Int), .string (H.getD k ⟨#[]⟩)] := by unfold msg; rw [Int.toNat_natCast]
    rw [eM] at q2
    generalize H.getD k ⟨#[]⟩ = z at q2 SN hz
    have CH := hide hch
    have Q1 := hide q1
    have Q2 := hide q2
    have Q3 := hide q3
    have HZ := hide hz
    have BX := hide hbox
    have DD := hide hd
    have CG := hide hchg
    have HM : Hid (m = ks.length - (j + 1)) := by show _ = _; omega
    have hcl : c < w.heap.size := (Array.getElem?_eq_some_iff.1 hch).1
    have HCL := hide hcl
    clear ih hm hj hch hbox hd hchg k0 k1 hk hdrop q1 q2 q3 eM hz hcl
    refine LoneTo.goes (n := 7) ?_
    simp only [plL2, plB2, plT, cSeq2, cBlk, cLoop, Try.f153, Option.getD_some]
    s_c stepG_block
    s_c stepG_seq
    s_reg
    s_op
    s_c stepG_region_end
    s_c stepG_seq
    s_reg
    s_stop
    refine LoneTo.step (step_lone_select_recv_buf (c := c) (z := .agg #[.int .i64 0, .string ⟨#[]⟩]) (stepG_comm (cases := #[rcase c (.agg #[.int .i64 0, .string ⟨#[]⟩])]) (blocking := false) (shape := .select) (w' := w) rfl rfl (by decide) (by simp [go_sem, execOp, rcase, Act.eval])) CH.out Q1.out) ?_
    rw [Q2.out, Q3.out]
    rw [Frame.finish_at]
    walk_nrm
    have ck := Chg.ofSetChan (lo := N + 1) (hi := N + 1 + 1) w c ks.length (msgs H (ks.drop (j + 1))) false s (r + 1) false (by have := HC.out; omega) (by have := HC.out; omega)
    have hch1 := heap_setChan w c ks.length (msgs H (ks.drop (j + 1))) false s (r + 1) false HCL.out
    generalize w.setChan c ks.length (msgs H (ks.drop (j + 1))) false s (r + 1) false = w1 at *
    have bx1 := BX.out.chg ck (.inl (by omega))
    have d1 := DD.out.chg ck (.inl (by omega))
    have cg1 := chg_new CG.out ck (by have := HN.out; omega)
    have l1 := bx1.lt
    have bb := below_box w1 (.cells #[.int .i64 (k : Int), .string z] 155)
    have d2 := d1.below bb
    obtain ⟨hp1, hp2⟩ := d2.cellP (by rw [crP, crPk_len]; exact LP.out) k hkn
    obtain ⟨dp, cpp⟩ := d1.putP (by rw [crP, crPk_len]; exact LP.out) k z HZ.out
    rw [SN.out] at dp
    have bx2 := bx1.below bb
    have b3 := below_box (w1.setCell ⟨gp, k, none⟩ (.string z)) (.cells #[.int .i64 (k : Int), .string z] 155)
    obtain ⟨c0, c1, c2⟩ := bx2.c3
    have DP := hide (dp.below b3)
    have CC := hide ((cg1.trans cpp).trans (Chg.ofBelow b3))
    have BF := hide ((bx1.chg cpp (.inr hhi)).below b3)
    have CF : Hid (((w1.setCell ⟨gp, k, none⟩ (.string z)).alloc (.cells #[.int .i64 (k : Int), .string z] 155)).heap[c]? = some (.chan ks.length (msgs H (ks.drop (j + 1))) false s (r + 1) false)) := by
      show _ = _
      have h1 := (Array.getElem?_eq_some_iff.1 hch1).1
      rw [b3.block c (by simp; omega), cpp.block c h1 (.inr (by have := HC.out; omega))]
      exact hch1
    have hk' : (k : Int) < (n : Int) := by omega
    have hgp : gp < w1.heap.size := by
      have := d1.tp gp rfl
      omega
    clear ck hch1 bx1 d1 cg1 bb d2 dp cpp bx2 c1 c2 b3
    refine LoneTo.goes (n := 24) ?_
    s_op
    s_op
    s_c stepG_region_end
    s_c stepG_block
    s_cond true
    s_c stepG_seq
    s_reg
    s_op
    s_op
    s_op
    s_c stepG_region_end
    s_reg
    s_op
    s_op
    s_op
    s_op
    s_op
    s_op
    s_op
    s_op
    s_c stepG_region_end
    s_c stepG_inBlock
    s_c stepG_inBlock
    s_c stepG_inLoop
    s_stop
    exact IH.out (j + 1) _ _ _ _ _ _ _ _ _ _ _ _ _ _ _ _ _ _ _ _ _ _ _ _ _ _ _ _ _ _ _ _ _ _ _ s (r + 1) HM.out hjl CF.out BF.out DP.out CC.out

set_option maxRecDepth 100000 in
set_option maxHeartbeats 1600000 in
theorem pl_loop1 (R : Ending → World → Prop) (gp cp gh ch gb cb n N c : Nat) (av : Option Addr) (cv : Nat) (P H : List ByteArray) (B : List Bool) (ks : List Int) (lo hi : Nat) (w0 : World) (cs : List Frame)
    (hP : P.length = n) (hH : H.length = n) (hhi : hi ≤ N) (hN : w0.heap.size = N) (hc : c = N + 1) (kr : ∀ i, i < ks.length → 0 ≤ ks.getD i 0 ∧ ks.getD i 0 < (n : Int)) (hn : n ≤ 24) (hkl : ks.length ≤ 1048576)
    (kv : ∀ w', Chg lo hi w0 w' → Rd w' (.slice av ks.length cv) ks)
    (fin : ∀ w', DskV w' lo hi (.slice (some ⟨gp, 0, none⟩) n cp) (.slice (some ⟨gh, 0, none⟩) n ch) (.slice (some ⟨gb, 0, none⟩) n cb) (crP P H ks) H B → Chg lo hi w0 w' → R (.returned (.tuple #[])) w') :
    ∀ (m j : Nat) (w : World) (u3 u5 u6 u7 u8 u9 u10 u14 u15 u16 u17 u18 u19 u20 u21 u22 u23 u24 u25 u26 u27 u28 u29 u30 u31 u32 u33 u34 u35 u36 u37 : Value),
      m = ks.length - j → j ≤ ks.length → w.heap[c]? = some (.chan ks.length (msgs H (ks.take j)) false j 0 false) → BoxAt w N #[.slice (some ⟨gp, 0, none⟩) n cp, .slice (some ⟨gh, 0, none⟩) n ch, .slice (some ⟨gb, 0, none⟩) n cb] 30 →
      DskV w lo hi (.slice (some ⟨gp, 0, none⟩) n cp) (.slice (some ⟨gh, 0, none⟩) n ch) (.slice (some ⟨gb, 0, none⟩) n cb) P H B → Chg lo hi w0 w →
      LoneTo Try.prog (fun g' w' => ∃ e fr, g' = G fr cs ∧ R e w' ∧ fr.fn = 153 ∧ fr.leaving Try.prog w' e)
        (G ((base 153).at ⟨#[.agg #[.slice (some ⟨gp, 0, none⟩) n cp, .slice (some ⟨gh, 0, none⟩) n ch, .slice (some ⟨gb, 0, none⟩) n cb], .slice av ks.length cv, .pointer (some ⟨N, 0, none⟩), u3, .chan (some c), u5, u6, u7, u8, u9, u10, .slice av ks.length cv, .int .i64 (ks.length : Int), .int .i64 (j : Int), u14, u15, u16, u17, u18, u19, u20, u21, u22, u23, u24, u25, u26, u27, u28, u29, u30, u31, u32, u33, u34, u35, u36, u37], []⟩ [.code (plL1 (Try.f153.body.getD .skip)), .inLoop (plL1 (Try.f153.body.getD .skip)), .inBlock 0, .code (plB2 (Try.f153.body.getD .skip))]) cs) w := by
  have LP := hide hP
  have LH := hide hH
  have HN := hide hN
  have HC := hide hc
  have KR := hide kr
  have KV := hide kv
  have FIN := hide fin
  clear hP hH hN hc kr kv fin
  intro m
  induction m with
  | zero =>
    intro j w u3 u5 u6 u7 u8 u9 u10 u14 u15 u16 u17 u18 u19 u20 u21 u22 u23 u24 u25 u26 u27 u28 u29 u30 u31 u32 u33 u34 u35 u36 u37 hm hj hch hbox hd hchg
    obtain rfl : j = ks.length := by omega
    rw [List.take_length] at hch
    have CH := hide hch
    have BX := hide hbox
    have DD := hide hd
    have CG := hide hchg
    clear hm hj hch hbox hd hchg
    refine LoneTo.goes (n := 9) ?_
    simp only [plL1, plB2, plT, cSeq1, cSeq2, cBlk, cLoop, Try.f153, Option.getD_some]
    s_c stepG_seq
    s_reg
    s_op
    s_c stepG_region_end
    s_c stepG_seq
    s_cond false
    s_exit
    s_c stepG_block
    s_c stepG_loop
    s_stop
    exact pl_loop2 R gp cp gh ch gb cb n N c _ P H B ks lo hi w0 cs LP.out LH.out hhi HN.out HC.out KR.out hn FIN.out ks.length 0 _ _ _ _ _ _ _ _ _ _ _ _ _ _ _ _ _ _ _ _ _ _ _ _ _ _ _ _ _ _ _ _ _ _ _ ks.length 0 (by omega) (Nat.zero_le _) (by rw [List.drop_zero]; exact CH.out) BX.out (by rw [List.take_zero, crP_nil]; exact DD.out) CG.out
  | succ m ih =>
    intro j w u3 u5 u6 u7 u8 u9 u10 u14 u15 u16 u17 u18 u19 u20 u21 u22 u23 u24 u25 u26 u27 u28 u29 u30 u31 u32 u33 u34 u35 u36 u37 hm hj hch hbox hd hchg
    have IH := hide ih
    have hjl : j < ks.length := by omega
    obtain ⟨k0, k1⟩ := KR.out j hjl
    obtain ⟨b, off, rfl, hcv, _⟩ := (KV.out _ hchg).at j hjl
    obtain ⟨k, hk⟩ : ∃ k : Nat, ks.getD j 0 = (k : Int) := ⟨(ks.getD j 0).toNat, by omega⟩
    have hkn : k < n := by omega
    rw [hk] at hcv
    have hpush : (msgs H (ks.take j)).push (.agg #[.int .i64 (k : Int), .string (H.getD k ⟨#[]⟩)]) = msgs H (ks.take (j + 1)) := by
      have e : ks[j] = (k : Int) := by rw [← hk, List.getD_eq_getElem?_getD, List.getElem?_eq_getElem hjl, Option.getD_some]
      unfold msgs
      rw [List.take_succ_eq_append_getElem hjl, List.map_append, List.map_singleton, e]
      unfold msg
      rw [Int.toNat_natCast]
      simp
    obtain ⟨hh1, _⟩ := hd.cellH LH.out k hkn
    have PU := hide hpush
    have hroom : (msgs H (ks.take j)).size < ks.length := by
      unfold msgs
      simp
      omega
    have RM := hide hroom
    clear hpush hroom
    generalize H.getD k ⟨#[]⟩ = z at PU hh1
    obtain ⟨c0, c1, c2⟩ := hbox.c3
    have CH := hide hch
    have BX := hide hbox
    have DD := hide hd
    have CG := hide hchg
    have HM : Hid (m = ks.length - (j + 1)) := by show _ = _; omega
    have hcl : c < w.heap.size := (Array.getElem?_eq_some_iff.1 hch).1
    have HCL := hide hcl
    have hlt' : (j : Int) < (ks.length : Int) := by omega
    have hk' : (k : Int) < (n : Int) := by omega
    clear ih hm hj hch hbox hd hchg k0 k1 hk hcl c0 c2
    refine LoneTo.goes (n := 24) ?_
    simp only [plL1, plB2, plT, cSeq1, cSeq2, cBlk, cLoop, Try.f153, Option.getD_some]
    s_c stepG_seq
    s_reg
    s_op
    s_c stepG_region_end
    s_c stepG_seq
    s_cond true
    s_c stepG_skip
    s_c stepG_seq
    s_c stepG_block
    s_c stepG_seq
    s_reg
    s_op
    s_op
    s_op
    s_c stepG_region_end
    s_reg
    s_op
    s_op
    s_op
    s_op
    s_op
    s_op
    s_op
    s_op
    s_stop
    refine LoneTo.step (step_lone_send_room (c := c) (cap := ks.length) (buf := msgs H (ks.take j)) (s := j) (r := 0) (tm := false) (stepG_comm (cases := #[scase c (.agg #[.int .i64 (k : Int), .string z]) (.tuple #[])]) (blocking := true) (shape := .send) (w' := w) rfl rfl (by decide) (by simp [execOp, scase, Act.eval])) CH.out RM.out) ?_
    rw [PU.out, Frame.finish_at]
    walk_nrm
    have ck := Chg.ofSetChan (lo := N + 1) (hi := N + 1 + 1) w c ks.length (msgs H (ks.take (j + 1))) false (j + 1) 0 false (by have := HC.out; omega) (by have := HC.out; omega)
    have hch1 := heap_setChan w c ks.length (msgs H (ks.take (j + 1))) false (j + 1) 0 false HCL.out
    generalize w.setChan c ks.length (msgs H (ks.take (j + 1))) false (j + 1) 0 false = w1 at *
    have CF := hide hch1
    have BF := hide (BX.out.chg ck (.inl (by omega)))
    have DF := hide (DD.out.chg ck (.inl (by omega)))
    have CC := hide (chg_new CG.out ck (by have := HN.out; omega))
    clear ck hch1
    refine LoneTo.goes (n := 7) ?_
    s_c stepG_region_end
    s_c stepG_inBlock
    s_reg
    s_op
    s_op
    s_c stepG_region_end
    s_c stepG_inLoop
    s_stop
    rw [show IntKind.i64.wrap ((j : Int) + 1) = ((j + 1 : Nat) : Int) from by simp [IntKind.wrap, IntKind.bits, IntKind.signed]; omega]
    exact IH.out (j + 1) _ _ _ _ _ _ _ _ _ _ _ _ _ _ _ _ _ _ _ _ _ _ _ _ _ _ _ _ _ _ _ _ HM.out hjl CF.out BF.out DF.out CC.out
end Go.Proofs.Ytpgmocogffolaaa

namespace Go.Proofs.Ytpgmocogffolaaa
open Go.RowKit Go.Conc
set_option linter.unusedVariables false

theorem infoSw : (Try.prog.info? 155).map (·.bytes) = some 24 := by kernel_rfl
theorem mk_chan (n : Nat) (h : n ≤ 1048576) (W : World) : (Instr.makeChan 153 (.int .i64 (n : Int))).run Try.prog W = .ok (.chan (some W.heap.size)) (W.alloc (.chan n #[] false 0 0 false)) := by
  obtain ⟨i, hi, hb⟩ := Option.map_eq_some_iff.1 infoSw
  exact run_makeChan (P := Try.prog) (w := W) Try.underlying153 hi .i64 n (by omega) (by rw [hb]; omega)

set_option maxRecDepth 100000 in
set_option maxHeartbeats 1600000 in
theorem putOnPlate_calls (p h b v : Value) (P H : List ByteArray) (B : List Bool) (ks : List Int) (lo hi n : Nat) (w : World) (d : DskV w lo hi p h b P H B) (hhi : hi ≤ w.heap.size) (hP : P.length = n) (hH : H.length = n) (hB : B.length = n) (hn : 0 < n ∧ n ≤ 24)
    (kr : ∀ i, i < ks.length → 0 ≤ ks.getD i 0 ∧ ks.getD i 0 < (n : Int)) (hkl : ks.length ≤ 1048576) (kv : ∀ w', Chg lo hi w w' → Rd w' v ks) :
    Calls Try.prog 153 #[.agg #[p, h, b], v] w fun e w' => e = .returned (.tuple #[]) ∧ DskV w' lo hi p h b (crP P H ks) H B ∧ Chg lo hi w w' := by
  obtain ⟨gp, cp, gh, ch, gb, cb, rfl, rfl, rfl, n1, n2, n3, ⟨t1, t2, t3⟩, _⟩ := d.blocks hP hH hB hn.1
  obtain ⟨av, cv, ev, _, _⟩ := (kv w (Chg.refl _ _ _)).sl
  subst ev
  refine calls_of_loneTo fun cs => ?_
  have e : Frame.enter Try.prog 153 #[.agg #[.slice (some ⟨gp, 0, none⟩) n cp, .slice (some ⟨gh, 0, none⟩) n ch, .slice (some ⟨gb, 0, none⟩) n cb], .slice av ks.length cv] .normal = (base 153).at ⟨#[.agg #[.slice (some ⟨gp, 0, none⟩) n cp, .slice (some ⟨gh, 0, none⟩) n ch, .slice (some ⟨gb, 0, none⟩) n cb], .slice av ks.length cv, undef, undef, undef, undef, undef, undef, undef, undef, undef, undef, undef, undef, undef, undef, undef, undef, undef, undef, undef, undef, undef, undef, undef, undef, undef, undef, undef, undef, undef, undef, undef, undef, undef, undef, undef, undef], []⟩ [.code (Try.f153.body.getD .skip)] := by
    simp [Frame.enter, Frame.at, Try.func153, base, Try.f153]
    try rfl
  rw [e]
  clear e
  have hmc := mk_chan ks.length hkl
  obtain ⟨W1, e1⟩ : ∃ W1, W1 = w.alloc (.cells #[.slice (some ⟨gp, 0, none⟩) n cp, .slice (some ⟨gh, 0, none⟩) n ch, .slice (some ⟨gb, 0, none⟩) n cb] 30) := ⟨_, rfl⟩
  obtain ⟨W2, e2⟩ : ∃ W2, W2 = W1.alloc (.chan ks.length #[] false 0 0 false) := ⟨_, rfl⟩
  have s1 : W1.heap.size = w.heap.size + 1 := by rw [e1]; simp
  have b1 : Below w.heap.size w W1 := by rw [e1]; exact below_box _ _
  have b2 : Below W1.heap.size W1 W2 := by rw [e2]; exact below_box _ _
  have bx : BoxAt W2 w.heap.size #[.slice (some ⟨gp, 0, none⟩) n cp, .slice (some ⟨gh, 0, none⟩) n ch, .slice (some ⟨gb, 0, none⟩) n cb] 30 := by
    refine BoxAt.below ?_ b2
    rw [e1]
    exact BoxAt.new _ _ _
  have hch : W2.heap[w.heap.size + 1]? = some (.chan ks.length (msgs H (ks.take 0)) false 0 0 false) := by
    rw [e2, ← s1]
    exact heap_alloc_new W1 _
  have bz : Below w.heap.size w W2 := b1.trans (b2.mono (by omega))
  have D2 := hide (d.below bz)
  have C2 := hide (Chg.ofBelow (lo := lo) (hi := hi) bz)
  have BX := hide bx
  have CH := hide hch
  have KV := hide kv
  have KR := hide kr
  have LP := hide hP
  have LH := hide hH
  have EW : Hid ((w.alloc (.cells #[.slice (some ⟨gp, 0, none⟩) n cp, .slice (some ⟨gh, 0, none⟩) n ch, .slice (some ⟨gb, 0, none⟩) n cb] 30)).alloc (.chan ks.length #[] false 0 0 false) = W2) := by show _ = _; rw [e2, e1]
  clear d kv kr hP hH hB e1 e2 s1 b1 b2 bx hch bz
  refine LoneTo.goes (n := 19) ?_
  simp only [Try.f153, Option.getD_some]
  s_c stepG_seq
  s_reg
  s_op
  s_c stepG_region_end
  s_c stepG_seq
  s_reg
  s_op
  s_op
  s_op
  s_op
  s_c stepG_region_end
  s_c stepG_seq
  s_c stepG_seq
  s_reg
  s_op
  s_op
  s_op
  s_c stepG_region_end
  s_c stepG_block
  s_stop
  refine LoneTo.goes (n := 1) ?_
  s_c stepG_loop
  s_stop
  rw [EW.out]
  exact pl_loop1 _ gp cp gh ch gb cb n w.heap.size (w.heap.size + 1) av cv P H B ks lo hi w cs LP.out LH.out hhi rfl rfl KR.out hn.2 hkl KV.out (fun w' h1 h2 => ⟨rfl, h1, h2⟩) ks.length 0 W2 _ _ _ _ _ _ _ _ _ _ _ _ _ _ _ _ _ _ _ _ _ _ _ _ _ _ _ _ _ _ _ (by omega) (Nat.zero_le _) CH.out BX.out D2.out C2.out
end Go.Proofs.Ytpgmocogffolaaa

namespace Go.Proofs.Ytpgmocogffolaaa
open Go.RowKit
set_option linter.unusedVariables false

theorem dsk_clear {lo hi gh ch n : Nat} {p b : Value} {P H : List ByteArray} {B : List Bool} (hH : H.length = n) : ∀ (m k : Nat) (w : World), k + m = n → DskV w lo hi p (.slice (some ⟨gh, 0, none⟩) n ch) b P (crHk H k) B →
    DskV (w.setCells gh k (List.replicate m (.string ⟨#[]⟩))) lo hi p (.slice (some ⟨gh, 0, none⟩) n ch) b P (crH H) B ∧ Chg lo hi w (w.setCells gh k (List.replicate m (.string ⟨#[]⟩)))
  | 0, k, w, hk, d => by
    obtain rfl : k = H.length := by omega
    rw [crHk_end] at d
    exact ⟨d, Chg.refl _ _ _⟩
  | m + 1, k, w, hk, d => by
    obtain ⟨d1, c1⟩ := d.putH (by rw [crHk_len]; exact hH) k ⟨#[]⟩ (Nat.zero_le _)
    rw [crHk_step H k (by omega)] at d1
    obtain ⟨d2, c2⟩ := dsk_clear hH m (k + 1) _ (by omega) d1
    exact ⟨d2, c1.trans c2⟩
theorem zero_str (w : World) : (zeroValue 9).run Try.prog w = .ok (.string ⟨#[]⟩) w := by
  obtain ⟨i0, hi, hz0, hz1, hz2⟩ := info_parts infoStr
  simp [zeroValue, typeInfo, hi, hz0]

set_option maxRecDepth 100000 in
set_option maxHeartbeats 1600000 in
theorem crashTo_calls (p h b v : Value) (P H : List ByteArray) (B : List Bool) (ks : List Int) (lo hi n : Nat) (g : Bool) (w : World) (d : DskV w lo hi p h b P H B) (hhi : hi ≤ w.heap.size) (hP : P.length = n) (hH : H.length = n) (hB : B.length = n) (hn : 0 < n ∧ n ≤ 24)
    (hkl : ks.length ≤ 1048576) (kv : ∀ w', Chg lo hi w w' → Rd w' v ks) (hg : g = true ↔ kpOk H ks) :
    Calls Try.prog 122 #[.agg #[p, h, b], v] w fun e w' => e = .returned (.bool g) ∧ (g = true → DskV w' lo hi p h b (crP P H ks) (crH H) B) ∧ Chg lo hi w w' := by
  obtain ⟨gp, cp, gh, ch, gb, cb, rfl, rfl, rfl, n1, n2, n3, ⟨t1, t2, t3⟩, _⟩ := d.blocks hP hH hB hn.1
  have KV := hide kv
  have HG := hide hg
  have D := hide d
  have LP := hide hP
  have LH := hide hH
  have LB := hide hB
  have A0 : Hid (Chg lo hi w (w.alloc (.cells #[.slice (some ⟨gp, 0, none⟩) n cp, .slice (some ⟨gh, 0, none⟩) n ch, .slice (some ⟨gb, 0, none⟩) n cb] 30))) := Chg.ofAlloc w _
  have X0 := hide (BoxAt.new w #[.slice (some ⟨gp, 0, none⟩) n cp, .slice (some ⟨gh, 0, none⟩) n ch, .slice (some ⟨gb, 0, none⟩) n cb] 30)
  have D0 := hide (d.below (below_box w (.cells #[.slice (some ⟨gp, 0, none⟩) n cp, .slice (some ⟨gh, 0, none⟩) n ch, .slice (some ⟨gb, 0, none⟩) n cb] 30)))
  have s0 : (w.alloc (.cells #[.slice (some ⟨gp, 0, none⟩) n cp, .slice (some ⟨gh, 0, none⟩) n ch, .slice (some ⟨gb, 0, none⟩) n cb] 30)).heap.size = w.heap.size + 1 := by simp
  clear kv hg d hP hH hB
  cases hr : rises ks (n : Int) with
  | false =>
    have HR := hide hr
    clear hr
    have e0 : Hid (g = false) := by
      show g = false
      cases g with
      | false => rfl
      | true =>
        have h1 := (rises_iff ks (n : Int)).2 (by rw [← LH.out]; exact (HG.out.1 rfl).1)
        rw [HR.out] at h1
        simp at h1
    go_enter Try.func122, Try.ntmps122
    go_wp2_with fail
    refine (areRising_calls _ ks (n : Int) _ (KV.out _ A0.out) (by omega) (by omega)).mono ?_
    rintro e w1 ⟨rfl, rfl⟩
    rw [HR.out]
    go_wp2
    go_ret
    exact ⟨ret_bool e0.out.symm, fun h => by rw [e0.out] at h; simp at h, A0.out⟩
  | true =>
  have HR := hide ((rises_iff ks (n : Int)).1 hr)
  have HRR := hide hr
  clear hr
  obtain ⟨y, hy⟩ : ∃ y : Bool, y = true ↔ ∀ i, i < ks.length → 0 < (H.getD (ks.getD i 0).toNat ⟨#[]⟩).size := by
    by_cases hh : ∀ i, i < ks.length → 0 < (H.getD (ks.getD i 0).toNat ⟨#[]⟩).size
    · exact ⟨true, fun _ => hh, fun _ => rfl⟩
    · exact ⟨false, fun h => by simp at h, fun h => absurd h hh⟩
  have CA := hide (allHeld_calls v ks w.heap.size _ H y _ (KV.out _ A0.out) X0.out.c3.2.1 D0.out.rh (fun i hi => by have := HR.out i hi; rw [LH.out]; exact ⟨this.1, this.2.1⟩) hy)
  have HYG : Hid (g = y) := by
    show g = y
    have hyk : kpOk H ks ↔ y = true := ⟨fun h => hy.2 h.2, fun h => ⟨by rw [LH.out]; exact HR.out, hy.1 h⟩⟩
    cases g with
    | true => exact (hyk.1 (HG.out.1 rfl)).symm
    | false =>
      cases y with
      | false => rfl
      | true => exact absurd (HG.out.2 (hyk.2 rfl)) (by simp)
  clear hy
  cases y with
  | false =>
    go_enter Try.func122, Try.ntmps122
    go_wp2_with fail
    refine (areRising_calls _ ks (n : Int) _ (KV.out _ A0.out) (by omega) (by omega)).mono ?_
    rintro e w1 ⟨rfl, rfl⟩
    rw [HRR.out]
    go_wp2_with fail
    refine CA.out.mono ?_
    rintro e w1 ⟨rfl, rfl⟩
    go_wp2
    go_ret
    exact ⟨ret_bool HYG.out.symm, fun h => by rw [HYG.out] at h; simp at h, A0.out⟩
  | true =>
  go_enter Try.func122, Try.ntmps122
  go_wp2_with fail
  refine (areRising_calls _ ks (n : Int) _ (KV.out _ A0.out) (by omega) (by omega)).mono ?_
  rintro e w1 ⟨rfl, rfl⟩
  rw [HRR.out]
  go_wp2_with fail
  refine CA.out.mono ?_
  rintro e w1 ⟨rfl, rfl⟩
  clear CA
  go_wp2_with fail
  refine (putOnPlate_calls _ _ _ v P H B ks lo hi n _ D0.out (by omega) LP.out LH.out LB.out hn (fun i hi => by have := HR.out i hi; exact ⟨this.1, this.2.1⟩) hkl (fun w' hc => KV.out _ (A0.out.trans hc))).mono ?_
  rintro e w2 ⟨rfl, d2, c2⟩
  have X2 := hide (X0.out.chg c2 (.inr hhi))
  obtain ⟨x0, x1, x2⟩ := X2.out.c3
  have d3 : DskV w2 lo hi (.slice (some ⟨gp, 0, none⟩) n cp) (.slice (some ⟨gh, 0, none⟩) n ch) (.slice (some ⟨gb, 0, none⟩) n cb) (crP P H ks) (crHk H 0) B := by rw [crHk_zero]; exact d2
  obtain ⟨d4, c4⟩ := dsk_clear LH.out n 0 w2 (by omega) d3
  have hcl := fun ty => Lib.run_clear_slice (P := Try.prog) w2 22 9 ty (.string ⟨#[]⟩) Try.underlying22 zero_str rfl rfl gh 0 n ch hn.1 (fun j hj => by rw [Nat.zero_add, (d2.cellH LH.out j hj).1]; rfl) (fun j hj => by rw [Nat.zero_add]; exact (d2.cellH LH.out j hj).2)
  have D4 := hide d4
  have C4 := hide ((A0.out.trans c2).trans c4)
  clear d2 c2 d3 d4 c4 x0 x2
  go_wp2
  go_ret
  exact ⟨ret_bool HYG.out.symm, fun _ => D4.out, C4.out⟩
end Go.Proofs.Ytpgmocogffolaaa

namespace Go.Proofs.Ytpgmocogffolaaa
open Go.RowKit
set_option linter.unusedVariables false

theorem Hand.store3 {W w : World} {L : List Tg} {g : Nat} {a b c : Value} {T : TypeId} (A : Hand W w L) (i : Nat) (hi : L[i]? = some (TBox g #[a, b, c] T)) (v0 v1 v2 : Value) :
    Hand W (((w.setCell ⟨g, 0, none⟩ v0).setCell ⟨g, 1, none⟩ v1).setCell ⟨g, 2, none⟩ v2) (L.set i (TBox g #[v0, v1, v2] T)) := by
  obtain ⟨lo, hi', ⟨b1, b2, b3⟩, _, _, put⟩ := A.open i hi
  exact put _ (TBox g #[v0, v1, v2] T) (TBox.st _ _ _) ⟨b1, b2, b3.store3 v0 v1 v2⟩ (Chg.store3 w g v0 v1 v2 b1 b2)
theorem Hand.wide {W w : World} {L : List Tg} {p h b : Value} {P H : List ByteArray} {B : List Bool} (A : Hand W w L) (i : Nat) (hi : L[i]? = some (TDsk p h b P H B)) : DskV w W.heap.size w.heap.size p h b P H B := by
  obtain ⟨lo, hi', d, h1, h2, _⟩ := A.open i hi
  exact DskV.wider d h1 h2
theorem Hand.two (w : World) (c1 c2 : Array Value) (T1 T2 : TypeId) : Hand w ((w.alloc (.cells c1 T1)).alloc (.cells c2 T2)) [TBox (w.heap.size + 1) c2 T2, TBox w.heap.size c1 T1] := by
  have h := ((Hand.start w).box c1 T1).box c2 T2
  simpa only [World.size_alloc] using h
/-- What AfterCrash answers. -/
def acP (ok : Bool) (P H : List ByteArray) (ks : List Int) : List ByteArray := if ok = true then crP P H ks else []
def acH (ok : Bool) (H : List ByteArray) : List ByteArray := if ok = true then crH H else []
def acB (ok : Bool) (B : List Bool) : List Bool := if ok = true then B else []
theorem ac_bool (P H : List ByteArray) (B : List Bool) (ks : List Int) : ∃ ok : Bool, ok = true ↔ (gkP P H B ∧ kpOk H ks) := by
  by_cases hh : gkP P H B ∧ kpOk H ks
  · exact ⟨true, fun _ => hh, fun _ => rfl⟩
  · exact ⟨false, fun h => by simp at h, fun h => absurd h hh⟩
theorem crP_len (P H : List ByteArray) (ks : List Int) : (crP P H ks).length = P.length := crPk_len _ _ _ _
theorem ac_len {P H : List ByteArray} {B : List Bool} {ks : List Int} {ok : Bool} (h : ok = true ↔ (gkP P H B ∧ kpOk H ks)) : SzD (acP ok P H ks) (acH ok H) (acB ok B) := by
  cases ok with
  | false => simp [SzD, acP, acH, acB]
  | true =>
    obtain ⟨⟨h1, h2⟩, h3, h4, _⟩ := (h.1 rfl).1
    simp only [SzD, acP, acH, acB, if_true, crP_len, crH, List.length_replicate]
    omega

set_option maxRecDepth 100000 in
set_option maxHeartbeats 1600000 in
theorem afterCrash_calls (p h b v : Value) (P H : List ByteArray) (B : List Bool) (ks : List Int) (ok : Bool) (w : World) (hok : ok = true ↔ (gkP P H B ∧ kpOk H ks)) (hp : RdT w p P) (hh : RdT w h H) (hb : RdZ w b B) (hv : Rd w v ks) (hkl : ks.length ≤ 1048576) :
    Calls Try.prog 81 #[.agg #[p, h, b], v] w fun e w' => ∃ p' h' b', e = .returned (.tuple #[.agg #[p', h', b'], .bool ok]) ∧ DskV w' w.heap.size w'.heap.size p' h' b' (acP ok P H ks) (acH ok H) (acB ok B) ∧ Below w.heap.size w w' := by
  have RP := hide hp
  have RH := hide hh
  have RB := hide hb
  have RV := hide hv
  have HOK := hide hok
  obtain ⟨g, hg⟩ := gk_bool' P H B
  have HG := hide hg
  have C := hide (fun W (h1 : RdT W p P) (h2 : RdT W h H) (h3 : RdZ W b B) => goodDisk_calls p h b P H B g W hg h1 h2 h3)
  have A0 := hide (Hand.two w #[p, h, b] nil3 30 30)
  clear hp hh hb hv hok hg
  cases g with
  | false =>
    obtain rfl : ok = false := by
      cases ok with
      | false => rfl
      | true => exact absurd (HG.out.2 (HOK.out.1 rfl).1) (by simp)
    go_enter Try.func81, Try.ntmps81
    go_wp2_with fail
    refine (C.out _ (RP.out.below A0.out.below) (RH.out.below A0.out.below) (RB.out.below A0.out.below)).mono ?_
    rintro e w1 ⟨rfl, q⟩
    have A1 := hide (A0.out.step q)
    clear q A0
    have xr := A1.out.atBox 0 rfl
    obtain ⟨d0, d1, d2⟩ := xr.c3
    have g0 := xr.frozen 0
    have g1 := xr.frozen 1
    have g2 := xr.frozen 2
    have A2 := hide (A1.out.store3 0 rfl (.slice none 0 0) (.slice none 0 0) (.slice none 0 0))
    clear xr
    go_wp2
    exact bodyPost_ret (res_dsk2 rfl _ _ (w.heap.size + 1) _ _ _ (0, 0) rfl (A2.out.atBox 0 rfl)) rfl ⟨_, _, _, rfl, DskV.nil _ _ _, A2.out.below⟩
  | true =>
  have hgk := HG.out.1 rfl
  obtain ⟨⟨hn1, hn2⟩, hl2, hl3, h28, hh28, _⟩ := hgk
  obtain ⟨n, hn⟩ : ∃ n, n = P.length := ⟨_, rfl⟩
  have LP : Hid (P.length = n) := hn.symm
  have LH : Hid (H.length = n) := hl2.trans hn.symm
  have LB : Hid (B.length = n) := hl3.trans hn.symm
  have H28 := hide h28
  have HH28 : Hid (∀ i, i < H.length → (H.getD i ⟨#[]⟩).size ≤ 28) := fun i hi => hh28 i (by rw [← hl2]; exact hi)
  have nn : 0 < n ∧ n ≤ 24 := ⟨by omega, by omega⟩
  have HK : Hid (ok = true ↔ kpOk H ks) := ⟨fun h => (HOK.out.1 h).2, fun h => HOK.out.2 ⟨HG.out.1 rfl, h⟩⟩
  clear hn1 hn2 hl2 hl3 h28 hh28 hn HOK HG
  go_enter Try.func81, Try.ntmps81
  go_wp2_with fail
  refine (C.out _ (RP.out.below A0.out.below) (RH.out.below A0.out.below) (RB.out.below A0.out.below)).mono ?_
  rintro e w1 ⟨rfl, q⟩
  have A1 := hide (A0.out.step q)
  clear q A0 C
  obtain ⟨c0, c1, c2⟩ := (A1.out.atBox 1 rfl).c3
  go_wp2_with fail
  refine (copyDisk_calls p h b P H B _ (RP.out.below A1.out.below) (RH.out.below A1.out.below) (RB.out.below A1.out.below) (by rw [LP.out]; exact nn) (by rw [LH.out]; exact nn) (by rw [LB.out]; exact nn) H28.out HH28.out).mono ?_
  rintro e w2 ⟨p2, h2, b2, rfl, d, q⟩
  obtain ⟨ap2, cp2, ah2, ch2, ab2, cb2, rfl, rfl, rfl⟩ := d.sl
  have lt2 := q.size
  have A2 := hide ((A1.out.add q (TDsk.st _ _ _ _ _ _) d).box #[.slice ap2 P.length cp2, .slice ah2 H.length ch2, .slice ab2 B.length cb2] 30)
  clear q d A1 c0 c1 c2
  obtain ⟨lo, hi, d2, lw, hw, put⟩ := A2.out.open 1 rfl
  have D2 : Hid (DskV _ lo hi _ _ _ P H B) := d2
  have PUT := hide put
  clear d2 put
  go_wp2_with fail
  refine (crashTo_calls _ _ _ v P H B ks lo hi n ok _ D2.out hw LP.out LH.out LB.out nn hkl (fun w' hc => RV.out.below (A2.out.below.trans (hc.below lw A2.out.below.size))) HK.out).mono ?_
  rintro e w3 ⟨rfl, d3, c3⟩
  cases ok with
  | false =>
    have A3 := hide (PUT.out w3 (fun _ _ _ => True) (fun _ _ _ _ _ _ _ _ _ => trivial) trivial c3)
    clear d3 c3 A2 D2 PUT lw hw
    have xr := A3.out.atBox 2 rfl
    obtain ⟨d0, d1, d2⟩ := xr.c3
    have g0 := xr.frozen 0
    have g1 := xr.frozen 1
    have g2 := xr.frozen 2
    have A4 := hide (A3.out.store3 2 rfl (.slice none 0 0) (.slice none 0 0) (.slice none 0 0))
    clear xr
    go_wp2
    exact bodyPost_ret (res_dsk2 rfl _ _ (w.heap.size + 1) _ _ _ (0, 0) rfl (A4.out.atBox 2 rfl)) rfl ⟨_, _, _, rfl, DskV.nil _ _ _, A4.out.below⟩
  | true =>
    have A3 := hide (PUT.out w3 (TDsk _ _ _ _ _ _) (TDsk.st _ _ _ _ _ _) (d3 rfl) c3)
    clear d3 c3 A2 D2 PUT lw hw
    have xr := A3.out.atBox 2 rfl
    obtain ⟨d0, d1, d2⟩ := xr.c3
    have g0 := xr.frozen 0
    have g1 := xr.frozen 1
    have g2 := xr.frozen 2
    obtain ⟨c0, c1, c2⟩ := (A3.out.atBox 0 rfl).c3
    have A4 := hide (A3.out.store3 2 rfl (.slice ap2 P.length cp2) (.slice ah2 H.length ch2) (.slice ab2 B.length cb2))
    clear xr
    go_wp2
    exact bodyPost_ret (res_dsk2 rfl _ _ (w.heap.size + 1) _ _ _ (0, 0) rfl (A4.out.atBox 2 rfl)) rfl ⟨_, _, _, rfl, A4.out.wide 1 rfl, A4.out.below⟩

end Go.Proofs.Ytpgmocogffolaaa

/-
  What is kept goes to the plate through a channel: the program's putOnPlate, call by call, by the machine's own steps. The contract says what it asks.
-/
import Derived.Test.YtnjpkfgljabdaaaDcs
import Derived.Conc.LoneCalls
import Derived.Conc.LoneSelect
namespace Go.Proofs.Ytnjpkfgljabdaaa
open Go.RowKit Go.Conc
set_option linter.unusedVariables false

def cSeq1 : Code → Code | .seq x _ => x | c => c
def cSeq2 : Code → Code | .seq _ y => y | c => c
def cBlk : Code → Code | .block _ c => c | c => c
def cLoop : Code → Code | .loop c => c | c => c
/-- The pieces of the function's own text. -/
def plT (c : Code) : Code := cSeq2 (cSeq2 c)
def plB2 (c : Code) : Code := cSeq2 (plT c)
def plL1 (c : Code) : Code := cLoop (cBlk (cSeq2 (cSeq1 (plT c))))
def plL2 (c : Code) : Code := cLoop (cBlk (plB2 c))

/-- What is sent for the places from j on. -/
def msg (H : List ByteArray) (x : Int) : Value := .agg #[.int .i64 x, .string (H.getD x.toNat ⟨#[]⟩)]
def msgs (H : List ByteArray) (ks : List Int) : Array Value := (ks.map (msg H)).toArray
theorem crP_snoc (P H : List ByteArray) (ks : List Int) (j k : Nat) (hj : j < ks.length) (hk : ks.getD j 0 = (k : Int)) (hkP : k < P.length) : (crP P H (ks.take j)).set k (H.getD k ⟨#[]⟩) = crP P H (ks.take (j + 1)) := by
  have hmem : ∀ i : Nat, (i : Int) ∈ ks.take (j + 1) ↔ (i = k ∨ (i : Int) ∈ ks.take j) := by
    intro i
    rw [List.take_succ_eq_append_getElem hj, List.mem_append, List.mem_singleton]
    have e : ks[j] = (k : Int) := by rw [← hk, List.getD_eq_getElem?_getD, List.getElem?_eq_getElem hj, Option.getD_some]
    rw [e]
    constructor
    · rintro (h | h)
      · exact .inr h
      · exact .inl (by omega)
    · rintro (h | h)
      · exact .inr (by omega)
      · exact .inl h
  unfold crP
  refine ext_getD (by rw [List.length_set, crPk_len, crPk_len]) fun i hi => ?_
  rw [List.length_set, crPk_len] at hi
  rw [getD_setT _ _ _ _ (by rw [crPk_len]; exact hkP), crPk_at P H _ _ i hi, crPk_at P H _ _ i hi]
  by_cases e : i = k
  · subst e; rw [if_pos rfl, if_pos ⟨hi, (hmem i).2 (.inl rfl)⟩]
  · rw [if_neg e]
    by_cases h2 : i < P.length ∧ (i : Int) ∈ ks.take j
    · rw [if_pos h2, if_pos ⟨hi, (hmem i).2 (.inr h2.2)⟩]
    · rw [if_neg h2, if_neg (fun h3 => h2 ⟨hi, ((hmem i).1 h3.2).resolve_left e⟩)]
theorem crP_nil (P H : List ByteArray) : crP P H [] = P := by
  refine ext_getD (crPk_len _ _ _ _) fun i hi => ?_
  unfold crP at *
  rw [crPk_len] at hi
  rw [crPk_at P H [] _ i hi, if_neg (fun h => by simp at h)]

theorem Chg.ofSetChan {lo hi : Nat} (w : World) (c cap : Nat) (buf : Array Value) (cl : Bool) (s r : Nat) (tm : Bool) (h1 : lo ≤ c) (h2 : c < hi) : Chg lo hi w (w.setChan c cap buf cl s r tm) := by
  refine ⟨rfl, rfl, rfl, by simp [World.setChan], fun k hk ho => ?_⟩
  simp only [World.setChan]
  rw [Array.getElem?_setIfInBounds_ne (by omega)]
theorem msgs_cons (H : List ByteArray) (x : Int) (l : List Int) : 0 < (msgs H (x :: l)).size ∧ (msgs H (x :: l)).getD 0 undef = msg H x ∧ (msgs H (x :: l)).extract 1 (msgs H (x :: l)).size = msgs H l := by
  refine ⟨by simp [msgs], by simp [msgs], ?_⟩
  apply Array.ext'
  simp [msgs, List.take_of_length_le]

set_option maxRecDepth 100000 in
set_option maxHeartbeats 1600000 in
theorem pl_loop2 (R : Ending → World → Prop) (gp cp gh ch gb cb n N c : Nat) (v : Value) (P H : List ByteArray) (B : List Bool) (ks : List Int) (lo hi : Nat) (w0 : World) (cs : List Frame)
    (hP : P.length = n) (hH : H.length = n) (hhi : hi ≤ N) (hN : w0.heap.size = N) (hc : c = N + 1) (kr : ∀ i, i < ks.length → 0 ≤ ks.getD i 0 ∧ ks.getD i 0 < (n : Int)) (hn : n ≤ 24)
    (fin : ∀ w', DskV w' lo hi (.slice (some ⟨gp, 0, none⟩) n cp) (.slice (some ⟨gh, 0, none⟩) n ch) (.slice (some ⟨gb, 0, none⟩) n cb) (crP P H ks) H B → Chg lo hi w0 w' → R (.returned (.tuple #[])) w') :
    ∀ (m j : Nat) (w : World) (u3 u5 u6 u7 u8 u9 u10 u11 u12 u13 u14 u15 u16 u17 u18 u19 u20 u21 u22 u23 u24 u25 u26 u27 u28 u29 u30 u31 u32 u33 u34 u35 u36 u37 : Value) (s r : Nat),
      m = ks.length - j → j ≤ ks.length → w.heap[c]? = some (.chan ks.length (msgs H (ks.drop j)) false s r false) → BoxAt w N #[.slice (some ⟨gp, 0, none⟩) n cp, .slice (some ⟨gh, 0, none⟩) n ch, .slice (some ⟨gb, 0, none⟩) n cb] 25 →
      DskV w lo hi (.slice (some ⟨gp, 0, none⟩) n cp) (.slice (some ⟨gh, 0, none⟩) n ch) (.slice (some ⟨gb, 0, none⟩) n cb) (crP P H (ks.take j)) H B → Chg lo hi w0 w →
      LoneTo Try.prog (fun g' w' => ∃ e fr, g' = G fr cs ∧ R e w' ∧ fr.fn = 82 ∧ fr.leaving Try.prog w' e)
        (G ((base 82).at ⟨#[.agg #[.slice (some ⟨gp, 0, none⟩) n cp, .slice (some ⟨gh, 0, none⟩) n ch, .slice (some ⟨gb, 0, none⟩) n cb], v, .pointer (some ⟨N, 0, none⟩), u3, .chan (some c), u5, u6, u7, u8, u9, u10, u11, u12, u13, u14, u15, u16, u17, u18, u19, u20, u21, u22, u23, u24, u25, u26, u27, u28, u29, u30, u31, u32, u33, u34, u35, u36, u37], []⟩ [.code (plL2 (Try.f82.body.getD .skip)), .inLoop (plL2 (Try.f82.body.getD .skip)), .inBlock 2]) cs) w := by
  have LP := hide hP
  have LH := hide hH
  have HN := hide hN
  have HC := hide hc
  have KR := hide kr
  have FIN := hide fin
  clear hP hH hN hc kr fin
  intro m
  induction m with
  | zero =>
    intro j w u3 u5 u6 u7 u8 u9 u10 u11 u12 u13 u14 u15 u16 u17 u18 u19 u20 u21 u22 u23 u24 u25 u26 u27 u28 u29 u30 u31 u32 u33 u34 u35 u36 u37 s r hm hj hch hbox hd hchg
    obtain rfl : j = ks.length := by omega
    rw [List.take_length] at hd
    rw [List.drop_length] at hch
    have CH := hide hch
    have BX := hide hbox
    have DD := hide hd
    have CG := hide hchg
    clear hm hj hch hbox hd hchg
    refine LoneTo.goes (n := 7) ?_
    simp only [plL2, plB2, plT, cSeq2, cBlk, cLoop, Try.f82, Option.getD_some]
    s_c stepG_block
    s_c stepG_seq
    s_reg
    s_op
    s_c stepG_region_end
    s_c stepG_seq
    s_reg
    s_stop
    refine LoneTo.step (step_lone_select_default (c := c) (z := .agg #[.int .i64 0, .string ⟨#[]⟩]) (cap := ks.length) (s := s) (r := r) (tm := false) (stepG_comm (cases := #[rcase c (.agg #[.int .i64 0, .string ⟨#[]⟩])]) (blocking := false) (shape := .select) (w' := w) rfl rfl (by decide) (by simp [go_sem, execOp, rcase, Act.eval])) CH.out) ?_
    rw [Frame.finish_at]
    walk_nrm
    refine LoneTo.goes (n := 6) ?_
    s_op
    s_op
    s_c stepG_region_end
    s_c stepG_block
    s_cond false
    s_c stepG_ret'
    s_stop
    exact LoneTo.done ⟨.returned (.tuple #[]), _, rfl, FIN.out _ DD.out CG.out, rfl, rfl, rfl, rfl, _, Try.func82, by simp [results, Try.f82]⟩
  | succ m ih =>
    intro j w u3 u5 u6 u7 u8 u9 u10 u11 u12 u13 u14 u15 u16 u17 u18 u19 u20 u21 u22 u23 u24 u25 u26 u27 u28 u29 u30 u31 u32 u33 u34 u35 u36 u37 s r hm hj hch hbox hd hchg
    have IH := hide ih
    have hjl : j < ks.length := by omega
    obtain ⟨k0, k1⟩ := KR.out j hjl
    obtain ⟨k, hk⟩ : ∃ k : Nat, ks.getD j 0 = (k : Int) := ⟨(ks.getD j 0).toNat, by omega⟩
    have hkn : k < n := by omega
    have hdrop : ks.drop j = (k : Int) :: ks.drop (j + 1) := by
      rw [List.drop_eq_getElem_cons hjl, ← hk, List.getD_eq_getElem?_getD, List.getElem?_eq_getElem hjl, Option.getD_some]
    rw [hdrop] at hch
    obtain ⟨q1, q2, q3⟩ := msgs_cons H (k : Int) (ks.drop (j + 1))
    have SN := hide (crP_snoc P H ks j k hjl hk (by rw [LP.out]; exact hkn))
    have hz : (H.getD k ⟨#[]⟩).size ≤ maxLen := by
      have := hd.rh.szAt k
      unfold maxLen
      exact this
    have eM : msg H (k : Int) = .agg #[.int .i64 (k : Int), .string (H.getD k ⟨#[]⟩)] := by unfold msg; rw [Int.toNat_natCast]
    rw [eM] at q2
    generalize H.getD k ⟨#[]⟩ = z at q2 SN hz
    have CH := hide hch
    have Q1 := hide q1
    have Q2 := hide q2
    have Q3 := hide q3
    have HZ := hide hz
    have BX := hide hbox
    have DD := hide hd
    have CG := hide hchg
    have HM : Hid (m = ks.length - (j + 1)) := by show _ = _; omega
    have hcl : c < w.heap.size := (Array.getElem?_eq_some_iff.1 hch).1
    have HCL := hide hcl
    clear ih hm hj hch hbox hd hchg k0 k1 hk hdrop q1 q2 q3 eM hz hcl
    refine LoneTo.goes (n := 7) ?_
    simp only [plL2, plB2, plT, cSeq2, cBlk, cLoop, Try.f82, Option.getD_some]
    s_c stepG_block
    s_c stepG_seq
    s_reg
    s_op
    s_c stepG_region_end
    s_c stepG_seq
    s_reg
    s_stop
    refine LoneTo.step (step_lone_select_recv_buf (c := c) (z := .agg #[.int .i64 0, .string ⟨#[]⟩]) (stepG_comm (cases := #[rcase c (.agg #[.int .i64 0, .string ⟨#[]⟩])]) (blocking := false) (shape := .select) (w' := w) rfl rfl (by decide) (by simp [go_sem, execOp, rcase, Act.eval])) CH.out Q1.out) ?_
    rw [Q2.out, Q3.out]
    rw [Frame.finish_at]
    walk_nrm
    have ck := Chg.ofSetChan (lo := N + 1) (hi := N + 1 + 1) w c ks.length (msgs H (ks.drop (j + 1))) false s (r + 1) false (by have := HC.out; omega) (by have := HC.out; omega)
    have hch1 := heap_setChan w c ks.length (msgs H (ks.drop (j + 1))) false s (r + 1) false HCL.out
    generalize w.setChan c ks.length (msgs H (ks.drop (j + 1))) false s (r + 1) false = w1 at *
    have bx1 := BX.out.chg ck (.inl (by omega))
    have d1 := DD.out.chg ck (.inl (by omega))
    have cg1 := chg_new CG.out ck (by have := HN.out; omega)
    have l1 := bx1.lt
    have bb := below_box w1 (.cells #[.int .i64 (k : Int), .string z] 93)
    have d2 := d1.below bb
    obtain ⟨hp1, hp2⟩ := d2.cellP (by rw [crP, crPk_len]; exact LP.out) k hkn
    obtain ⟨dp, cpp⟩ := d1.putP (by rw [crP, crPk_len]; exact LP.out) k z HZ.out
    rw [SN.out] at dp
    have bx2 := bx1.below bb
    have b3 := below_box (w1.setCell ⟨gp, k, none⟩ (.string z)) (.cells #[.int .i64 (k : Int), .string z] 93)
    obtain ⟨c0, c1, c2⟩ := bx2.c3
    have DP := hide (dp.below b3)
    have CC := hide ((cg1.trans cpp).trans (Chg.ofBelow b3))
    have BF := hide ((bx1.chg cpp (.inr hhi)).below b3)
    have CF : Hid (((w1.setCell ⟨gp, k, none⟩ (.string z)).alloc (.cells #[.int .i64 (k : Int), .string z] 93)).heap[c]? = some (.chan ks.length (msgs H (ks.drop (j + 1))) false s (r + 1) false)) := by
      show _ = _
      have h1 := (Array.getElem?_eq_some_iff.1 hch1).1
      rw [b3.block c (by simp; omega), cpp.block c h1 (.inr (by have := HC.out; omega))]
      exact hch1
    have hk' : (k : Int) < (n : Int) := by omega
    have hgp : gp < w1.heap.size := by
      have := d1.tp gp rfl
      omega
    clear ck hch1 bx1 d1 cg1 bb d2 dp cpp bx2 c1 c2 b3
    refine LoneTo.goes (n := 24) ?_
    s_op
    s_op
    s_c stepG_region_end
    s_c stepG_block
    s_cond true
    s_c stepG_seq
    s_reg
    s_op
    s_op
    s_op
    s_c stepG_region_end
    s_reg
    s_op
    s_op
    s_op
    s_op
    s_op
    s_op
    s_op
    s_op
    s_c stepG_region_end
    s_c stepG_inBlock
    s_c stepG_inBlock
    s_c stepG_inLoop
    s_stop
    exact IH.out (j + 1) _ _ _ _ _ _ _ _ _ _ _ _ _ _ _ _ _ _ _ _ _ _ _ _ _ _ _ _ _ _ _ _ _ _ _ s (r + 1) HM.out hjl CF.out BF.out DP.out CC.out

set_option maxRecDepth 100000 in
set_option maxHeartbeats 1600000 in
theorem pl_loop1 (R : Ending → World → Prop) (gp cp gh ch gb cb n N c : Nat) (av : Option Addr) (cv : Nat) (P H : List ByteArray) (B : List Bool) (ks : List Int) (lo hi : Nat) (w0 : World) (cs : List Frame)
    (hP : P.length = n) (hH : H.length = n) (hhi : hi ≤ N) (hN : w0.heap.size = N) (hc : c = N + 1) (kr : ∀ i, i < ks.length → 0 ≤ ks.getD i 0 ∧ ks.getD i 0 < (n : Int)) (hn : n ≤ 24) (hkl : ks.length ≤ 1048576)
    (kv : ∀ w', Chg lo hi w0 w' → Rd w' (.slice av ks.length cv) ks)
    (fin : ∀ w', DskV w' lo hi (.slice (some ⟨gp, 0, none⟩) n cp) (.slice (some ⟨gh, 0, none⟩) n ch) (.slice (some ⟨gb, 0, none⟩) n cb) (crP P H ks) H B → Chg lo hi w0 w' → R (.returned (.tuple #[])) w') :
    ∀ (m j : Nat) (w : World) (u3 u5 u6 u7 u8 u9 u10 u14 u15 u16 u17 u18 u19 u20 u21 u22 u23 u24 u25 u26 u27 u28 u29 u30 u31 u32 u33 u34 u35 u36 u37 : Value),
      m = ks.length - j → j ≤ ks.length → w.heap[c]? = some (.chan ks.length (msgs H (ks.take j)) false j 0 false) → BoxAt w N #[.slice (some ⟨gp, 0, none⟩) n cp, .slice (some ⟨gh, 0, none⟩) n ch, .slice (some ⟨gb, 0, none⟩) n cb] 25 →
      DskV w lo hi (.slice (some ⟨gp, 0, none⟩) n cp) (.slice (some ⟨gh, 0, none⟩) n ch) (.slice (some ⟨gb, 0, none⟩) n cb) P H B → Chg lo hi w0 w →
      LoneTo Try.prog (fun g' w' => ∃ e fr, g' = G fr cs ∧ R e w' ∧ fr.fn = 82 ∧ fr.leaving Try.prog w' e)
        (G ((base 82).at ⟨#[.agg #[.slice (some ⟨gp, 0, none⟩) n cp, .slice (some ⟨gh, 0, none⟩) n ch, .slice (some ⟨gb, 0, none⟩) n cb], .slice av ks.length cv, .pointer (some ⟨N, 0, none⟩), u3, .chan (some c), u5, u6, u7, u8, u9, u10, .slice av ks.length cv, .int .i64 (ks.length : Int), .int .i64 (j : Int), u14, u15, u16, u17, u18, u19, u20, u21, u22, u23, u24, u25, u26, u27, u28, u29, u30, u31, u32, u33, u34, u35, u36, u37], []⟩ [.code (plL1 (Try.f82.body.getD .skip)), .inLoop (plL1 (Try.f82.body.getD .skip)), .inBlock 0, .code (plB2 (Try.f82.body.getD .skip))]) cs) w := by
  have LP := hide hP
  have LH := hide hH
  have HN := hide hN
  have HC := hide hc
  have KR := hide kr
  have KV := hide kv
  have FIN := hide fin
  clear hP hH hN hc kr kv fin
  intro m
  induction m with
  | zero =>
    intro j w u3 u5 u6 u7 u8 u9 u10 u14 u15 u16 u17 u18 u19 u20 u21 u22 u23 u24 u25 u26 u27 u28 u29 u30 u31 u32 u33 u34 u35 u36 u37 hm hj hch hbox hd hchg
    obtain rfl : j = ks.length := by omega
    rw [List.take_length] at hch
    have CH := hide hch
    have BX := hide hbox
    have DD := hide hd
    have CG := hide hchg
    clear hm hj hch hbox hd hchg
    refine LoneTo.goes (n := 9) ?_
    simp only [plL1, plB2, plT, cSeq1, cSeq2, cBlk, cLoop, Try.f82, Option.getD_some]
    s_c stepG_seq
    s_reg
    s_op
    s_c stepG_region_end
    s_c stepG_seq
    s_cond false
    s_exit
    s_c stepG_block
    s_c stepG_loop
    s_stop
    exact pl_loop2 R gp cp gh ch gb cb n N c _ P H B ks lo hi w0 cs LP.out LH.out hhi HN.out HC.out KR.out hn FIN.out ks.length 0 _ _ _ _ _ _ _ _ _ _ _ _ _ _ _ _ _ _ _ _ _ _ _ _ _ _ _ _ _ _ _ _ _ _ _ ks.length 0 (by omega) (Nat.zero_le _) (by rw [List.drop_zero]; exact CH.out) BX.out (by rw [List.take_zero, crP_nil]; exact DD.out) CG.out
  | succ m ih =>
    intro j w u3 u5 u6 u7 u8 u9 u10 u14 u15 u16 u17 u18 u19 u20 u21 u22 u23 u24 u25 u26 u27 u28 u29 u30 u31 u32 u33 u34 u35 u36 u37 hm hj hch hbox hd hchg
    have IH := hide ih
    have hjl : j < ks.length := by omega
    obtain ⟨k0, k1⟩ := KR.out j hjl
    obtain ⟨b, off, rfl, hcv, _⟩ := (KV.out _ hchg).at j hjl
    obtain ⟨k, hk⟩ : ∃ k : Nat, ks.getD j 0 = (k : Int) := ⟨(ks.getD j 0).toNat, by omega⟩
    have hkn : k < n := by omega
    rw [hk] at hcv
    have hpush : (msgs H (ks.take j)).push (.agg #[.int .i64 (k : Int), .string (H.getD k ⟨#[]⟩)]) = msgs H (ks.take (j + 1)) := by
      have e : ks[j] = (k : Int) := by rw [← hk, List.getD_eq_getElem?_getD, List.getElem?_eq_getElem hjl, Option.getD_some]
      unfold msgs
      rw [List.take_succ_eq_append_getElem hjl, List.map_append, List.map_singleton, e]
      unfold msg
      rw [Int.toNat_natCast]
      simp
    obtain ⟨hh1, _⟩ := hd.cellH LH.out k hkn
    have PU := hide hpush
    have hroom : (msgs H (ks.take j)).size < ks.length := by
      unfold msgs
      simp
      omega
    have RM := hide hroom
    clear hpush hroom
    generalize H.getD k ⟨#[]⟩ = z at PU hh1
    obtain ⟨c0, c1, c2⟩ := hbox.c3
    have CH := hide hch
    have BX := hide hbox
    have DD := hide hd
    have CG := hide hchg
    have HM : Hid (m = ks.length - (j + 1)) := by show _ = _; omega
    have hcl : c < w.heap.size := (Array.getElem?_eq_some_iff.1 hch).1
    have HCL := hide hcl
    have hlt' : (j : Int) < (ks.length : Int) := by omega
    have hk' : (k : Int) < (n : Int) := by omega
    clear ih hm hj hch hbox hd hchg k0 k1 hk hcl c0 c2
    refine LoneTo.goes (n := 24) ?_
    simp only [plL1, plB2, plT, cSeq1, cSeq2, cBlk, cLoop, Try.f82, Option.getD_some]
    s_c stepG_seq
    s_reg
    s_op
    s_c stepG_region_end
    s_c stepG_seq
    s_cond true
    s_c stepG_skip
    s_c stepG_seq
    s_c stepG_block
    s_c stepG_seq
    s_reg
    s_op
    s_op
    s_op
    s_c stepG_region_end
    s_reg
    s_op
    s_op
    s_op
    s_op
    s_op
    s_op
    s_op
    s_op
    s_stop
    refine LoneTo.step (step_lone_send_room (c := c) (cap := ks.length) (buf := msgs H (ks.take j)) (s := j) (r := 0) (tm := false) (stepG_comm (cases := #[scase c (.agg #[.int .i64 (k : Int), .string z]) (.tuple #[])]) (blocking := true) (shape := .send) (w' := w) rfl rfl (by decide) (by simp [execOp, scase, Act.eval])) CH.out RM.out) ?_
    rw [PU.out, Frame.finish_at]
    walk_nrm
    have ck := Chg.ofSetChan (lo := N + 1) (hi := N + 1 + 1) w c ks.length (msgs H (ks.take (j + 1))) false (j + 1) 0 false (by have := HC.out; omega) (by have := HC.out; omega)
    have hch1 := heap_setChan w c ks.length (msgs H (ks.take (j + 1))) false (j + 1) 0 false HCL.out
    generalize w.setChan c ks.length (msgs H (ks.take (j + 1))) false (j + 1) 0 false = w1 at *
    have CF := hide hch1
    have BF := hide (BX.out.chg ck (.inl (by omega)))
    have DF := hide (DD.out.chg ck (.inl (by omega)))
    have CC := hide (chg_new CG.out ck (by have := HN.out; omega))
    clear ck hch1
    refine LoneTo.goes (n := 7) ?_
    s_c stepG_region_end
    s_c stepG_inBlock
    s_reg
    s_op
    s_op
    s_c stepG_region_end
    s_c stepG_inLoop
    s_stop
    rw [show IntKind.i64.wrap ((j : Int) + 1) = ((j + 1 : Nat) : Int) from by simp [IntKind.wrap, IntKind.bits, IntKind.signed]; omega]
    exact IH.out (j + 1) _ _ _ _ _ _ _ _ _ _ _ _ _ _ _ _ _ _ _ _ _ _ _ _ _ _ _ _ _ _ _ _ HM.out hjl CF.out BF.out DF.out CC.out
end Go.Proofs.Ytnjpkfgljabdaaa

/-
  What is kept goes to the plate through a channel: the program's putOnPlate as a whole. The contract says what it asks.
-/
import Derived.Test.YtnjpkfgljabdaaaDpl
namespace Go.Proofs.Ytnjpkfgljabdaaa
open Go.RowKit Go.Conc
set_option linter.unusedVariables false

theorem infoSw : (Try.prog.info? 93).map (·.bytes) = some 24 := by kernel_rfl
theorem mk_chan (n : Nat) (h : n ≤ 1048576) (W : World) : (Instr.makeChan 91 (.int .i64 (n : Int))).run Try.prog W = .ok (.chan (some W.heap.size)) (W.alloc (.chan n #[] false 0 0 false)) := by
  obtain ⟨i, hi, hb⟩ := Option.map_eq_some_iff.1 infoSw
  exact run_makeChan (P := Try.prog) (w := W) Try.underlying91 hi .i64 n (by omega) (by rw [hb]; omega)

set_option maxRecDepth 100000 in
set_option maxHeartbeats 1600000 in
theorem putOnPlate_calls (p h b v : Value) (P H : List ByteArray) (B : List Bool) (ks : List Int) (lo hi n : Nat) (w : World) (d : DskV w lo hi p h b P H B) (hhi : hi ≤ w.heap.size) (hP : P.length = n) (hH : H.length = n) (hB : B.length = n) (hn : 0 < n ∧ n ≤ 24)
    (kr : ∀ i, i < ks.length → 0 ≤ ks.getD i 0 ∧ ks.getD i 0 < (n : Int)) (hkl : ks.length ≤ 1048576) (kv : ∀ w', Chg lo hi w w' → Rd w' v ks) :
    Calls Try.prog 82 #[.agg #[p, h, b], v] w fun e w' => e = .returned (.tuple #[]) ∧ DskV w' lo hi p h b (crP P H ks) H B ∧ Chg lo hi w w' := by
  obtain ⟨gp, cp, gh, ch, gb, cb, rfl, rfl, rfl, n1, n2, n3, ⟨t1, t2, t3⟩, _⟩ := d.blocks hP hH hB hn.1
  obtain ⟨av, cv, ev, _, _⟩ := (kv w (Chg.refl _ _ _)).sl
  subst ev
  refine calls_of_loneTo fun cs => ?_
  have e : Frame.enter Try.prog 82 #[.agg #[.slice (some ⟨gp, 0, none⟩) n cp, .slice (some ⟨gh, 0, none⟩) n ch, .slice (some ⟨gb, 0, none⟩) n cb], .slice av ks.length cv] .normal = (base 82).at ⟨#[.agg #[.slice (some ⟨gp, 0, none⟩) n cp, .slice (some ⟨gh, 0, none⟩) n ch, .slice (some ⟨gb, 0, none⟩) n cb], .slice av ks.length cv, undef, undef, undef, undef, undef, undef, undef, undef, undef, undef, undef, undef, undef, undef, undef, undef, undef, undef, undef, undef, undef, undef, undef, undef, undef, undef, undef, undef, undef, undef, undef, undef, undef, undef, undef, undef], []⟩ [.code (Try.f82.body.getD .skip)] := by
    simp [Frame.enter, Frame.at, Try.func82, base, Try.f82]
    try rfl
  rw [e]
  clear e
  have hmc := mk_chan ks.length hkl
  obtain ⟨W1, e1⟩ : ∃ W1, W1 = w.alloc (.cells #[.slice (some ⟨gp, 0, none⟩) n cp, .slice (some ⟨gh, 0, none⟩) n ch, .slice (some ⟨gb, 0, none⟩) n cb] 25) := ⟨_, rfl⟩
  obtain ⟨W2, e2⟩ : ∃ W2, W2 = W1.alloc (.chan ks.length #[] false 0 0 false) := ⟨_, rfl⟩
  have s1 : W1.heap.size = w.heap.size + 1 := by rw [e1]; simp
  have b1 : Below w.heap.size w W1 := by rw [e1]; exact below_box _ _
  have b2 : Below W1.heap.size W1 W2 := by rw [e2]; exact below_box _ _
  have bx : BoxAt W2 w.heap.size #[.slice (some ⟨gp, 0, none⟩) n cp, .slice (some ⟨gh, 0, none⟩) n ch, .slice (some ⟨gb, 0, none⟩) n cb] 25 := by
    refine BoxAt.below ?_ b2
    rw [e1]
    exact BoxAt.new _ _ _
  have hch : W2.heap[w.heap.size + 1]? = some (.chan ks.length (msgs H (ks.take 0)) false 0 0 false) := by
    rw [e2, ← s1]
    exact heap_alloc_new W1 _
  have bz : Below w.heap.size w W2 := b1.trans (b2.mono (by omega))
  have D2 := hide (d.below bz)
  have C2 := hide (Chg.ofBelow (lo := lo) (hi := hi) bz)
  have BX := hide bx
  have CH := hide hch
  have KV := hide kv
  have KR := hide kr
  have LP := hide hP
  have LH := hide hH
  have EW : Hid ((w.alloc (.cells #[.slice (some ⟨gp, 0, none⟩) n cp, .slice (some ⟨gh, 0, none⟩) n ch, .slice (some ⟨gb, 0, none⟩) n cb] 25)).alloc (.chan ks.length #[] false 0 0 false) = W2) := by show _ = _; rw [e2, e1]
  clear d kv kr hP hH hB e1 e2 s1 b1 b2 bx hch bz
  refine LoneTo.goes (n := 19) ?_
  simp only [Try.f82, Option.getD_some]
  s_c stepG_seq
  s_reg
  s_op
  s_c stepG_region_end
  s_c stepG_seq
  s_reg
  s_op
  s_op
  s_op
  s_op
  s_c stepG_region_end
  s_c stepG_seq
  s_c stepG_seq
  s_reg
  s_op
  s_op
  s_op
  s_c stepG_region_end
  s_c stepG_block
  s_stop
  refine LoneTo.goes (n := 1) ?_
  s_c stepG_loop
  s_stop
  rw [EW.out]
  exact pl_loop1 _ gp cp gh ch gb cb n w.heap.size (w.heap.size + 1) av cv P H B ks lo hi w cs LP.out LH.out hhi rfl rfl KR.out hn.2 hkl KV.out (fun w' h1 h2 => ⟨rfl, h1, h2⟩) ks.length 0 W2 _ _ _ _ _ _ _ _ _ _ _ _ _ _ _ _ _ _ _ _ _ _ _ _ _ _ _ _ _ _ _ (by omega) (Nat.zero_le _) CH.out BX.out D2.out C2.out
end Go.Proofs.Ytnjpkfgljabdaaa

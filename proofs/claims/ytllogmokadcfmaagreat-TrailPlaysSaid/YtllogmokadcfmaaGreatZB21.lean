/-
  Some texts of this claim, one behind the other: SpanCuts. What each proves, and its condition, stands at its head.
-/
import Derived.Test.YtllogmokadcfmaaGreatZB3
import Derived.Test.YtllogmokadcfmaaGreatZB12
import Derived.Lib.QuietBelow
/-
  The contract of the document's cuts. Condition: at most 10,000 spans each.
-/
namespace Go.Proofs.YtllogmokadcfmaaGreat.Span
open Go Go.RowKit Go.Lib Go.Proofs.YtllogmokadcfmaaGreat.Grow
set_option linter.unusedVariables false
def isI (L : List Int) : Rel := fun w v => ∃ A n c, v = .slice A n c ∧ Reads w w.heap.size 1 A n (ics L)
theorem isI_stable (L : List Int) : ∀ w w' v, Below w.heap.size w w' → isI L w v → isI L w' v :=
  fun _ _ _ hb ⟨A, n, c, hv, hn⟩ => ⟨A, n, c, hv, (hn.below hb).more hb.size⟩
theorem call_isI {f : FuncId} {args : Array Value} {w' : World} {L : List Int} (h : Calls Tryz.prog f args w' fun e w'' => ∃ A n c, e = .returned (.slice A n c) ∧ Reads w'' w''.heap.size 1 A n (ics L) ∧ Below w'.heap.size w' w'') :
    Calls Tryz.prog f args w' fun e w'' => ∃ v, e = .returned v ∧ Below w'.heap.size w' w'' ∧ isI L w'' v :=
  h.mono fun _ _ ⟨A, n, c, he, hr, hb⟩ => ⟨_, he, hb, A, n, c, rfl, hr⟩
theorem slice_def_ (A : Option Addr) (n c : Nat) : Value.slice A n c ≠ undef := by intro h; cases h
theorem cell_reg_ {w : World} {p : Addr} {v : Value} (h : w.cell? p = some v) (hp : p.block < w.heap.size) (d : Nat) (os : Array Obj) : (Sort.grow (redrawn w d) os).cell? p = some v :=
  ((below_regrown w d os).cell hp).trans h
theorem len_ics {w : World} {B n : Nat} {A : Option Addr} {L : List Int} (h : Reads w B 1 A n (ics L)) : n = L.length := by
  have := h.1; rw [ics_length] at this; omega
set_option maxHeartbeats 4000000 in
set_option maxRecDepth 100000 in
theorem cuts_any {Ba na ca Bb nb cb : Nat} {Aa Ab : Option Addr} {a b : List S} (w : World)
    (hra : SpIn w Ba Aa na a) (hrb : SpIn w Bb Ab nb b) (hBa : Ba ≤ w.heap.size) (hBb : Bb ≤ w.heap.size) (hna : na ≤ 10000) (hnb : nb ≤ 10000) :
    Calls Tryz.prog 113 #[.slice Aa na ca, .slice Ab nb cb] w fun e w' =>
      ∃ A n c, e = .returned (.slice A n c) ∧ Reads w' w'.heap.size 1 A n (ics (cutsS a b)) ∧ Below w.heap.size w w' := by
  have hla : a.length = na := hra.1
  have hlb : b.length = nb := hrb.1
  have hbase : Reads (w.alloc (.cells #[.int .i64 0, .int .i64 1000000000] 3)) (w.heap.size + 1) 1 (some ⟨w.heap.size, 0, none⟩) 2 (ics [0, 1000000000]) := Reads.newL w 3 #[.int .i64 0, .int .i64 1000000000]
  have Hbase := hide hbase
  clear hbase
  unfold cutsS
  obtain ⟨L1, hL1⟩ : ∃ L, L = a.foldl cut2 [0, 1000000000] := ⟨_, rfl⟩
  rw [← hL1]
  have HL1 := hide hL1
  clear hL1
  go_enter Tryz.func113, Tryz.ntmps113
  go_wp2
  go_loopw [5, 6] (fun v u wr => ∃ (i : Nat) (A : Option Addr) (n c : Nat), i ≤ na ∧ v = .slice A n c ∧ u = .int .i64 (i : Int) ∧ Reads wr wr.heap.size 1 A n (ics ((a.take i).foldl cut2 [0, 1000000000])) ∧ Below w.heap.size w wr) (fun _ u _ => na - (intOf u).toNat)
  case atStart => exact ⟨0, _, _, _, by omega, rfl, rfl, Hbase.out.more (by simp), (Below.refl _ _).alloc (Nat.le_refl _) _⟩
  case round =>
    obtain ⟨i, A, n, c, hi, rfl, rfl, hr, hb⟩ := hrel
    by_cases hlt : i < na
    · obtain ⟨ad, s, rfl, hbl, hx, c1, c2⟩ := (hra.below (hb.mono hBa)).at_ hlt
      have hbs := hb.size
      have hn : n ≤ 100000 := by
        rw [len_ics hr]
        refine Nat.le_trans (fold2_len _ _) ?_
        rw [List.length_take]; simp only [List.length_cons, List.length_nil]; omega
      have hE := hide (show (a.take (i + 1)).foldl cut2 [0, 1000000000] = ins (ins ((a.take i).foldl cut2 [0, 1000000000]) (clP s.1)) (clP s.2) by
        rw [List.take_add_one, hx]; simp [cut2])
      have hnL := len_ics hr
      generalize (a.take i).foldl cut2 [0, 1000000000] = L at *
      have hil := ins_len L (clP s.1)
      obtain ⟨x, y⟩ := s
      simp only [] at *
      have q1 := cell_reg_ c1 (by rw [block_of_add]; omega)
      have q2 := cell_reg_ c2 (by simp only [block_of_add]; omega)
      have HnL := hide hnL
      have Hil := hide hil
      clear hx c1 c2 hnL hil
      go_upto_region 5 with fail
      refine wp_region_grow [(21, isI (ins L (clP x))), (27, isI (ins (ins L (clP x)) (clP y)))] [21, 27]
        (by kernel_rfl) (by kernel_rfl) rfl (by kernel_rfl) (by kernel_rfl) ⟨isI_stable _, isI_stable _, trivial⟩ ?_
      repeat (first
        | (refine lex_skip rfl ?_; simp only [Act.put, List.setIfInBounds_toArray, List.set_cons_zero, List.set_cons_succ])
        | (refine lex_quiet rfl rfl rfl (fun K hK => ?_); unfold Reg; go_big_quiet_op; refine hK _ ?_; clear hK K)
        | (refine lex_rel rfl rfl (fun w' hb9 hK => ?_) (fun v w' hb9 hv => ?_)
           · unfold grows
             go_simp
             first
               | (go_at_call 125
                  have hdone := hone
                  obtain ⟨A4, n4, c4, e4, hr4⟩ := hK.at_ 21 rfl rfl (slice_def_ _ _ _)
                  injection e4 with e4 e5 e6
                  subst e4 e5 e6
                  exact call_isI (refPut_any y w' hr4 (Nat.le_refl _) (by have := len_ics hr4; have := HnL.out; have := Hil.out; omega)))
               | (go_at_call 125
                  exact call_isI (refPut_any x w' ((hr.below hb9).more hb9.size) (Nat.le_refl _) (by omega)))
           obtain ⟨A3, n3, c3, rfl, hr3⟩ := hv
           have hone := True.intro
           simp only [Act.put, List.setIfInBounds_toArray, List.set_cons_zero, List.set_cons_succ]))
      refine lex_nil (fun w9 hC9 hall => ?_)
      have hb9 := reg_iff.1 hC9
      obtain ⟨A5, n5, c5, e5, hr5⟩ := hall 12 _ 27 _ rfl rfl rfl (slice_def_ _ _ _)
      injection e5 with e5 e6 e7
      subst e5 e6 e7
      clear hall q1 q2
      go_wp2
      go_roundw
      case rel => exact ⟨i + 1, _, _, _, by omega, rfl, by go_num, by rw [hE.out]; exact hr5, hb.trans (hb9.mono hb.size)⟩
      case measure => simp [intOf]; omega
    · have hi2 : i = na := by omega
      have e : a.take i = a := List.take_of_length_le (by omega)
      rw [e, ← HL1.out] at hr
      have hL1n := hide (show L1.length ≤ 2 + 2 * na by rw [HL1.out]; refine Nat.le_trans (fold2_len _ _) ?_; simp; omega)
      clear e hlt Hbase HL1
      go_wp2
      go_loopw [5, 7] (fun v u wr2 => ∃ (i : Nat) (A : Option Addr) (n c : Nat), i ≤ nb ∧ v = .slice A n c ∧ u = .int .i64 (i : Int) ∧ Reads wr2 wr2.heap.size 1 A n (ics ((b.take i).foldl cut2 L1)) ∧ Below w.heap.size w wr2) (fun _ u _ => nb - (intOf u).toNat)
      case atStart => exact ⟨0, _, _, _, by omega, rfl, rfl, hr, hb⟩
      case round =>
        clear hr hb hra hi2 hi
        obtain ⟨i, A, n, c, hi, rfl, rfl, hr, hb⟩ := hrel
        by_cases hlt : i < nb
        · obtain ⟨ad, s, rfl, hbl, hx, c1, c2⟩ := (hrb.below (hb.mono hBb)).at_ hlt
          have hbs := hb.size
          have hn : n ≤ 100000 := by
            rw [len_ics hr]
            refine Nat.le_trans (fold2_len _ _) ?_
            have := hL1n.out
            rw [List.length_take]; omega
          have hE := hide (show (b.take (i + 1)).foldl cut2 L1 = ins (ins ((b.take i).foldl cut2 L1) (clP s.1)) (clP s.2) by
            rw [List.take_add_one, hx]; simp [cut2])
          have hnL := len_ics hr
          generalize (b.take i).foldl cut2 L1 = L at *
          have hil := ins_len L (clP s.1)
          obtain ⟨x, y⟩ := s
          simp only [] at *
          have q1 := cell_reg_ c1 (by rw [block_of_add]; omega)
          have q2 := cell_reg_ c2 (by simp only [block_of_add]; omega)
          have HnL := hide hnL
          have Hil := hide hil
          clear hx c1 c2 hnL hil
          go_upto_region 9 with fail
          refine wp_region_grow [(40, isI (ins L (clP x))), (46, isI (ins (ins L (clP x)) (clP y)))] [40, 46]
            (by kernel_rfl) (by kernel_rfl) rfl (by kernel_rfl) (by kernel_rfl) ⟨isI_stable _, isI_stable _, trivial⟩ ?_
          repeat (first
            | (refine lex_skip rfl ?_; simp only [Act.put, List.setIfInBounds_toArray, List.set_cons_zero, List.set_cons_succ])
            | (refine lex_quiet rfl rfl rfl (fun K hK => ?_); unfold Reg; go_big_quiet_op; refine hK _ ?_; clear hK K)
            | (refine lex_rel rfl rfl (fun w' hb9 hK => ?_) (fun v w' hb9 hv => ?_)
               · unfold grows
                 go_simp
                 first
                   | (go_at_call 125
                      have hdone := hone
                      obtain ⟨A4, n4, c4, e4, hr4⟩ := hK.at_ 40 rfl rfl (slice_def_ _ _ _)
                      injection e4 with e4 e5 e6
                      subst e4 e5 e6
                      exact call_isI (refPut_any y w' hr4 (Nat.le_refl _) (by have := len_ics hr4; have := HnL.out; have := Hil.out; omega)))
                   | (go_at_call 125
                      exact call_isI (refPut_any x w' ((hr.below hb9).more hb9.size) (Nat.le_refl _) (by omega)))
               obtain ⟨A3, n3, c3, rfl, hr3⟩ := hv
               have hone := True.intro
               simp only [Act.put, List.setIfInBounds_toArray, List.set_cons_zero, List.set_cons_succ]))
          refine lex_nil (fun w9 hC9 hall => ?_)
          have hb9 := reg_iff.1 hC9
          obtain ⟨A5, n5, c5, e5, hr5⟩ := hall 12 _ 46 _ rfl rfl rfl (slice_def_ _ _ _)
          injection e5 with e5 e6 e7
          subst e5 e6 e7
          clear hall q1 q2
          go_wp2
          go_roundw
          case rel => exact ⟨i + 1, _, _, _, by omega, rfl, by go_num, by rw [hE.out]; exact hr5, hb.trans (hb9.mono hb.size)⟩
          case measure => simp [intOf]; omega
        · have hi2 : i = nb := by omega
          have e : b.take i = b := List.take_of_length_le (by omega)
          rw [e] at hr
          clear e hlt
          go_wp2
          go_ret
          exact ⟨_, _, _, rfl, hr, hb⟩
end Go.Proofs.YtllogmokadcfmaaGreat.Span

/-
  Some texts of this claim, one behind the other: SpanCuts, NeedRefCheck, ManiRefCheck. What each proves, and its condition, stands at its head.
-/
import Derived.Test.YtjbjdoioallpkaaDoorZ9
import Derived.Test.YtjbjdoioallpkaaDoorZ17
import Derived.Lib.QuietBelow
import Derived.Test.YtjbjdoioallpkaaDoorZ20
import Derived.Test.YtjbjdoioallpkaaDoorZ19
/-
  The contract of the document's cuts. Condition: at most 1000 spans each.
-/
namespace Go.Proofs.YtjbjdoioallpkaaDoor.Span
open Go Go.RowKit Go.Lib Go.Proofs.YtjbjdoioallpkaaDoor.Grow
set_option linter.unusedVariables false
/-- The relation 'it is a slice of these places'. -/
def isI (L : List Int) : Rel := fun w v => ∃ A n c, v = .slice A n c ∧ Reads w w.heap.size 1 A n (ics L)
theorem isI_stable (L : List Int) : ∀ w w' v, Below w.heap.size w w' → isI L w v → isI L w' v :=
  fun _ _ _ hb ⟨A, n, c, hv, hn⟩ => ⟨A, n, c, hv, (hn.below hb).more hb.size⟩
theorem call_isI {f : FuncId} {args : Array Value} {w' : World} {L : List Int} (h : Calls Tryd.prog f args w' fun e w'' => ∃ A n c, e = .returned (.slice A n c) ∧ Reads w'' w''.heap.size 1 A n (ics L) ∧ Below w'.heap.size w' w'') :
    Calls Tryd.prog f args w' fun e w'' => ∃ v, e = .returned v ∧ Below w'.heap.size w' w'' ∧ isI L w'' v :=
  h.mono fun _ _ ⟨A, n, c, he, hr, hb⟩ => ⟨_, he, hb, A, n, c, rfl, hr⟩
theorem slice_def_ (A : Option Addr) (n c : Nat) : Value.slice A n c ≠ undef := by intro h; cases h
theorem cell_reg_ {w : World} {p : Addr} {v : Value} (h : w.cell? p = some v) (hp : p.block < w.heap.size) (d : Nat) (os : Array Obj) : (Sort.grow (redrawn w d) os).cell? p = some v :=
  ((below_regrown w d os).cell hp).trans h
theorem len_ics {w : World} {B n : Nat} {A : Option Addr} {L : List Int} (h : Reads w B 1 A n (ics L)) : n = L.length := by
  have := h.1; rw [ics_length] at this; omega
end Go.Proofs.YtjbjdoioallpkaaDoor.Span
/-
  The contract of the document's Check: which needs may be. Condition: the slices read as needs, of at most 1,000,000,001 spans each; names of at most 1,000,000,000 bytes.
-/
namespace Go.Proofs.YtjbjdoioallpkaaDoor.Need
open Go Go.RowKit Go.Lib Go.Proofs.YtjbjdoioallpkaaDoor.Span Go.Proofs.YtjbjdoioallpkaaDoor.Grow
open Go.Proofs.YtjbjdoioallpkaaDoor.Label (runes fitL refFit_any)
set_option linter.unusedVariables false
def Names9 (l : List Nd) : Prop := ∀ q ∈ l, q.1.size ≤ 1000000000 ∧ q.2.length ≤ 1000000001
theorem call_isC_b {f : FuncId} {args : Array Value} {w' : World} {c : Value} (h : Calls Tryd.prog f args w' fun e w'' => e = .returned c ∧ ∃ k, w'' = w'.drewN k) :
    Calls Tryd.prog f args w' fun e w'' => ∃ v, e = .returned v ∧ Below w'.heap.size w' w'' ∧ isC c w'' v :=
  h.mono fun _ _ ⟨he, k, hw⟩ => ⟨_, he, by rw [hw]; exact quiet_b k, rfl⟩
set_option maxHeartbeats 8000000 in
set_option maxRecDepth 100000 in
theorem refCheckN_any (l : List Nd) (A : Option Addr) (n c : Nat) (w : World) (h : NdOn w A n l) (hl : Names9 l) (hn : n ≤ 140737488355328) :
    Calls Tryd.prog 6 #[.slice A n c] w fun e w' => e = .returned (.bool (okS l)) ∧ Below w.heap.size w w' := by
  have hlen := h.len
  have e : okS l = (okFrom ByteArray.empty l && decide (n ≤ 6)) := by unfold okS; rw [hlen]
  have Hl : Hid (okS l = (okFrom ByteArray.empty l && decide (n ≤ 6))) := hide e
  have Hd := hide (fun a i q => @ok_drop l a i q)
  clear e
  generalize okS l = L at *
  obtain ⟨F, hF⟩ : ∃ F, F = okFrom ByteArray.empty l := ⟨_, rfl⟩
  rw [← hF] at Hl
  have HF := hide hF
  have Hlen := hide hlen
  clear hF hlen
  go_enter Tryd.func6, Tryd.ntmps6
  go_wp2
  go_loopw [3] (fun v wr => ∃ (i : Nat) (p : ByteArray), i ≤ n ∧ v = .int .i64 (i : Int) ∧ Hid (i = 0 → p = ByteArray.empty) ∧ Hid (∀ j, i = j + 1 → ∃ q, l[j]? = some q ∧ q.1 = p) ∧ Hid (F = okFrom p (l.drop i)) ∧ Below w.heap.size w wr) (fun v _ => n - (RowKit.intOf v).toNat)
  case atStart => exact ⟨0, ByteArray.empty, by omega, rfl, hide (fun _ => rfl), hide (fun j hj => by omega), HF, Below.refl _ _⟩
  case round =>
    obtain ⟨i, p, hi, rfl, hp0, hp1, hf, hb⟩ := hrel
    by_cases hlt : i < n
    · have hR := NdIn.below h hb
      obtain ⟨ad, q, A', n', c', rfl, hbl, hx, hs, c1, c2⟩ := NdIn.at_ hR hlt
      obtain ⟨hq1, hq2⟩ := hl q (List.mem_of_getElem? hx)
      have hd := hf.out.trans (Hd.out p i q hx)
      have hbs := hb.size
      have q1 := cell_reg_ c1 (by rw [block_of_add]; omega)
      have q2 := cell_reg_ c2 (by simp only [block_of_add]; omega)
      have Hnx := hide (fun j (hj : i + 1 = j + 1) => show ∃ q' : Nd, l[j]? = some q' ∧ q'.1 = q.1 from ⟨q, by rw [← Nat.succ.inj hj]; exact hx, rfl⟩)
      have hi1 : (0 : Int) ≤ (i : Int) := by omega
      have hi2 : (i : Int) < (n : Int) := by omega
      obtain ⟨nm, s⟩ := q
      simp only [] at q1 q2 hs hq1 hq2 hd Hnx
      have hsl := hs.1
      have HC := hide (fun (wx : World) (hbx : Below wr.heap.size wr wx) => @refCheck_any _ _ c' A' s wx (hs.below (hbx.mono hb.size)) (by omega))
      have HW := hide (fun (wx : World) => refFit_any nm wx hq1)
      rw [hsl] at hd
      have Hd2 := hide hd
      have Hemp := hide (fun (g : fitL (runes nm 0) = true) => nlt_empty g)
      have htri := tri nm p
      clear hs hq1 hq2 hd hsl c1 c2
      generalize fitL (runes nm 0) = y at *
      generalize isSet (-1) s = z at *
      cases y
      · have e : Hid (F = false) := hide (by rw [Hd2.out]; rfl)
        clear Hd2 htri Hemp hp1 hR Hnx
        go_upto_region 4 with fail
        refine wp_region_grow [(15, isC (.bool false)), (23, isC (.bool false))] [15, 23]
          (by kernel_rfl) (by kernel_rfl) rfl (by kernel_rfl) (by kernel_rfl) ⟨isC_stable _, isC_stable _, trivial⟩ ?_
        repeat (first
          | (refine lex_skip rfl ?_; simp only [Act.put, List.setIfInBounds_toArray, List.set_cons_zero, List.set_cons_succ])
          | (refine lex_quiet rfl rfl rfl (fun K hK => ?_); unfold Reg; go_big_quiet_op; refine hK _ ?_; clear hK K)
          | (refine lex_rel rfl rfl (fun w' hb9 hK => ?_) (fun v w' hb9 hv => ?_)
             · unfold grows
               go_simp
               first
                 | (go_at_call 14
                    exact call_isC (HW.out w'))
                 | (go_at_call 15
                    exact call_isC_b (HC.out w' hb9))
             obtain rfl := hv
             simp only [Act.put, List.setIfInBounds_toArray, List.set_cons_zero, List.set_cons_succ]))
        refine lex_nil (fun w9 hC9 _ => ?_)
        have hb9 := reg_iff.1 hC9
        clear q1 q2
        go_wp2
        go_ret
        exact ⟨by rw [Hl.out, e.out]; rfl, hb.trans (hb9.mono hbs)⟩
      · cases z
        · have e : Hid (F = false) := hide (by rw [Hd2.out]; simp)
          clear Hd2 htri Hemp hp1 hR Hnx
          go_upto_region 4 with fail
          refine wp_region_grow [(15, isC (.bool true)), (23, isC (.bool false))] [15, 23]
            (by kernel_rfl) (by kernel_rfl) rfl (by kernel_rfl) (by kernel_rfl) ⟨isC_stable _, isC_stable _, trivial⟩ ?_
          repeat (first
            | (refine lex_skip rfl ?_; simp only [Act.put, List.setIfInBounds_toArray, List.set_cons_zero, List.set_cons_succ])
            | (refine lex_quiet rfl rfl rfl (fun K hK => ?_); unfold Reg; go_big_quiet_op; refine hK _ ?_; clear hK K)
            | (refine lex_rel rfl rfl (fun w' hb9 hK => ?_) (fun v w' hb9 hv => ?_)
               · unfold grows
                 go_simp
                 first
                   | (go_at_call 14
                      exact call_isC (HW.out w'))
                   | (go_at_call 15
                      exact call_isC_b (HC.out w' hb9))
               obtain rfl := hv
               simp only [Act.put, List.setIfInBounds_toArray, List.set_cons_zero, List.set_cons_succ]))
          refine lex_nil (fun w9 hC9 _ => ?_)
          have hb9 := reg_iff.1 hC9
          clear q1 q2
          go_wp2
          go_ret
          exact ⟨by rw [Hl.out, e.out]; rfl, hb.trans (hb9.mono hbs)⟩
        · by_cases h6 : 6 < n'
          · have e : Hid (F = false) := hide (by rw [Hd2.out, decide_eq_false (by omega)]; simp)
            have h6z : (6 : Int) < (n' : Int) := by omega
            clear Hd2 htri Hemp hp1 hR Hnx
            go_upto_region 4 with fail
            refine wp_region_grow [(15, isC (.bool true)), (23, isC (.bool true))] [15, 23]
              (by kernel_rfl) (by kernel_rfl) rfl (by kernel_rfl) (by kernel_rfl) ⟨isC_stable _, isC_stable _, trivial⟩ ?_
            repeat (first
              | (refine lex_skip rfl ?_; simp only [Act.put, List.setIfInBounds_toArray, List.set_cons_zero, List.set_cons_succ])
              | (refine lex_quiet rfl rfl rfl (fun K hK => ?_); unfold Reg; go_big_quiet_op; refine hK _ ?_; clear hK K)
              | (refine lex_rel rfl rfl (fun w' hb9 hK => ?_) (fun v w' hb9 hv => ?_)
                 · unfold grows
                   go_simp
                   first
                     | (go_at_call 14
                        exact call_isC (HW.out w'))
                     | (go_at_call 15
                        exact call_isC_b (HC.out w' hb9))
                 obtain rfl := hv
                 simp only [Act.put, List.setIfInBounds_toArray, List.set_cons_zero, List.set_cons_succ]))
            refine lex_nil (fun w9 hC9 _ => ?_)
            have hb9 := reg_iff.1 hC9
            clear q1 q2
            go_wp2
            go_ret
            exact ⟨by rw [Hl.out, e.out]; rfl, hb.trans (hb9.mono hbs)⟩
          · have h6z : ¬ (6 : Int) < (n' : Int) := by omega
            rw [decide_eq_true (show n' ≤ 6 by omega)] at Hd2
            by_cases h0 : i = 0
            · have e : Hid (F = okFrom nm (l.drop (i + 1))) := hide (by rw [Hd2.out, hp0.out h0, Hemp.out (by first | rfl | trivial)]; rfl)
              have h0z : ¬ 0 < i := by omega
              clear Hd2 htri Hemp hp1 hR h0
              go_upto_region 4 with fail
              refine wp_region_grow [(15, isC (.bool true)), (23, isC (.bool true))] [15, 23]
                (by kernel_rfl) (by kernel_rfl) rfl (by kernel_rfl) (by kernel_rfl) ⟨isC_stable _, isC_stable _, trivial⟩ ?_
              repeat (first
                | (refine lex_skip rfl ?_; simp only [Act.put, List.setIfInBounds_toArray, List.set_cons_zero, List.set_cons_succ])
                | (refine lex_quiet rfl rfl rfl (fun K hK => ?_); unfold Reg; go_big_quiet_op; refine hK _ ?_; clear hK K)
                | (refine lex_rel rfl rfl (fun w' hb9 hK => ?_) (fun v w' hb9 hv => ?_)
                   · unfold grows
                     go_simp
                     first
                       | (go_at_call 14
                          exact call_isC (HW.out w'))
                       | (go_at_call 15
                          exact call_isC_b (HC.out w' hb9))
                   obtain rfl := hv
                   simp only [Act.put, List.setIfInBounds_toArray, List.set_cons_zero, List.set_cons_succ]))
              refine lex_nil (fun w9 hC9 _ => ?_)
              have hb9 := reg_iff.1 hC9
              clear q1 q2
              go_wp2
              go_roundw
              case rel => exact ⟨i + 1, nm, by omega, by go_num, hide (fun h => by omega), Hnx, e, hb.trans (hb9.mono hbs)⟩
              case measure => simp [RowKit.intOf]; omega
            · obtain ⟨j, hj⟩ : ∃ j, i = j + 1 := ⟨i - 1, by omega⟩
              obtain ⟨q', hx', hq'⟩ := hp1.out j hj
              obtain ⟨ad', q'', A'', n'', c'', e', _, hx'', _, c1', _⟩ := NdIn.at_ hR (k := j) (by omega)
              injection e' with e'
              subst e'
              rw [hx'] at hx''
              injection hx'' with hx''
              subst hx''
              rw [hq'] at c1'
              have q3 := cell_reg_ c1' (by rw [block_of_add]; omega)
              have h0z : 0 < i := by omega
              have j1 : (0 : Int) ≤ (j : Int) := by omega
              have j2 : (j : Int) < (n : Int) := by omega
              have j3 : IntKind.i64.wrap ((i : Int) - 1) = (j : Int) := by rw [IntKind.wrap_i64]; omega
              have Hj := hide hj
              clear hj hx' hq' c1' hR hp1 Hemp h0
              rcases htri with ⟨f1, f2, f3⟩ | ⟨f1, f2, f3⟩ | ⟨f1, f2, f3⟩
              · have e : Hid (F = false) := hide (by rw [Hd2.out, f2]; simp)
                clear Hd2 f2 Hnx
                go_upto_region 4 with fail
                refine wp_region_grow [(15, isC (.bool true)), (23, isC (.bool true))] [15, 23]
                  (by kernel_rfl) (by kernel_rfl) rfl (by kernel_rfl) (by kernel_rfl) ⟨isC_stable _, isC_stable _, trivial⟩ ?_
                repeat (first
                  | (refine lex_skip rfl ?_; simp only [Act.put, List.setIfInBounds_toArray, List.set_cons_zero, List.set_cons_succ])
                  | (refine lex_quiet rfl rfl rfl (fun K hK => ?_); unfold Reg; go_big_quiet_op; refine hK _ ?_; clear hK K)
                  | (refine lex_rel rfl rfl (fun w' hb9 hK => ?_) (fun v w' hb9 hv => ?_)
                     · unfold grows
                       go_simp
                       first
                         | (go_at_call 14
                            exact call_isC (HW.out w'))
                         | (go_at_call 15
                            exact call_isC_b (HC.out w' hb9))
                     obtain rfl := hv
                     simp only [Act.put, List.setIfInBounds_toArray, List.set_cons_zero, List.set_cons_succ]))
                refine lex_nil (fun w9 hC9 _ => ?_)
                have hb9 := reg_iff.1 hC9
                clear q1 q2
                go_wp2
                go_ret
                exact ⟨by rw [Hl.out, e.out]; rfl, hb.trans (hb9.mono hbs)⟩
              · have e : Hid (F = false) := hide (by rw [Hd2.out, f2]; simp)
                clear Hd2 f2 Hnx
                go_upto_region 4 with fail
                refine wp_region_grow [(15, isC (.bool true)), (23, isC (.bool true))] [15, 23]
                  (by kernel_rfl) (by kernel_rfl) rfl (by kernel_rfl) (by kernel_rfl) ⟨isC_stable _, isC_stable _, trivial⟩ ?_
                repeat (first
                  | (refine lex_skip rfl ?_; simp only [Act.put, List.setIfInBounds_toArray, List.set_cons_zero, List.set_cons_succ])
                  | (refine lex_quiet rfl rfl rfl (fun K hK => ?_); unfold Reg; go_big_quiet_op; refine hK _ ?_; clear hK K)
                  | (refine lex_rel rfl rfl (fun w' hb9 hK => ?_) (fun v w' hb9 hv => ?_)
                     · unfold grows
                       go_simp
                       first
                         | (go_at_call 14
                            exact call_isC (HW.out w'))
                         | (go_at_call 15
                            exact call_isC_b (HC.out w' hb9))
                     obtain rfl := hv
                     simp only [Act.put, List.setIfInBounds_toArray, List.set_cons_zero, List.set_cons_succ]))
                refine lex_nil (fun w9 hC9 _ => ?_)
                have hb9 := reg_iff.1 hC9
                clear q1 q2
                go_wp2
                go_ret
                exact ⟨by rw [Hl.out, e.out]; rfl, hb.trans (hb9.mono hbs)⟩
              · have e : Hid (F = okFrom nm (l.drop (i + 1))) := hide (by rw [Hd2.out, f2]; rfl)
                clear Hd2 f2
                go_upto_region 4 with fail
                refine wp_region_grow [(15, isC (.bool true)), (23, isC (.bool true))] [15, 23]
                  (by kernel_rfl) (by kernel_rfl) rfl (by kernel_rfl) (by kernel_rfl) ⟨isC_stable _, isC_stable _, trivial⟩ ?_
                repeat (first
                  | (refine lex_skip rfl ?_; simp only [Act.put, List.setIfInBounds_toArray, List.set_cons_zero, List.set_cons_succ])
                  | (refine lex_quiet rfl rfl rfl (fun K hK => ?_); unfold Reg; go_big_quiet_op; refine hK _ ?_; clear hK K)
                  | (refine lex_rel rfl rfl (fun w' hb9 hK => ?_) (fun v w' hb9 hv => ?_)
                     · unfold grows
                       go_simp
                       first
                         | (go_at_call 14
                            exact call_isC (HW.out w'))
                         | (go_at_call 15
                            exact call_isC_b (HC.out w' hb9))
                     obtain rfl := hv
                     simp only [Act.put, List.setIfInBounds_toArray, List.set_cons_zero, List.set_cons_succ]))
                refine lex_nil (fun w9 hC9 _ => ?_)
                have hb9 := reg_iff.1 hC9
                clear q1 q2
                go_wp2
                go_roundw
                case rel => exact ⟨i + 1, nm, by omega, by go_num, hide (fun h => by omega), Hnx, e, hb.trans (hb9.mono hbs)⟩
                case measure => simp [RowKit.intOf]; omega
    · have hi2 : i = n := by omega
      have e : Hid (F = true) := hide (by rw [hf.out, List.drop_of_length_le (by have := Hlen.out; omega)]; rfl)
      clear hf
      by_cases h6 : n ≤ 6
      · have h6z : (n : Int) ≤ 6 := by omega
        go_wp2
        go_ret
        exact ⟨by rw [Hl.out, e.out, decide_eq_true h6]; rfl, hb⟩
      · have h6z : ¬ (n : Int) ≤ 6 := by omega
        go_wp2
        go_ret
        exact ⟨by rw [Hl.out, e.out, decide_eq_false h6]; rfl, hb⟩
end Go.Proofs.YtjbjdoioallpkaaDoor.Need
/-
  Contract of the document's Check: which manifests may be. Condition: releases, needs, names and sets of a length that may be walked.
-/
namespace Go.Proofs.YtjbjdoioallpkaaDoor.Mani
open Go Go.RowKit Go.Lib Go.Proofs.YtjbjdoioallpkaaDoor.Span Go.Proofs.YtjbjdoioallpkaaDoor.Need Go.Proofs.YtjbjdoioallpkaaDoor.Grow
open Go.Proofs.YtjbjdoioallpkaaDoor.Label (runes fitL refFit_any)
set_option linter.unusedVariables false
theorem Fine.names9 {l : List Nd} (h : Fine l) : Names9 l := fun q hq => by have := h.2 q hq; omega
end Go.Proofs.YtjbjdoioallpkaaDoor.Mani

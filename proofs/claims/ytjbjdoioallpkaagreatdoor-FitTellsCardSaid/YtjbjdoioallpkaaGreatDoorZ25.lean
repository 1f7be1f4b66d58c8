/-
  Some texts of this claim, one behind the other: SpanCuts, NeedRefCheck, ManiRefCheck. What each proves, and its condition, stands at its head.
-/
import Derived.Test.YtjbjdoioallpkaaGreatDoorZ9
import Derived.Test.YtjbjdoioallpkaaGreatDoorZ17
import Derived.Lib.QuietBelow
import Derived.Test.YtjbjdoioallpkaaGreatDoorZ20
import Derived.Test.YtjbjdoioallpkaaGreatDoorZ19
/-
  The contract of the document's cuts. Condition: at most 1000 spans each.
-/
namespace Go.Proofs.YtjbjdoioallpkaaGreatDoor.Span
open Go Go.RowKit Go.Lib Go.Proofs.YtjbjdoioallpkaaGreatDoor.Grow
set_option linter.unusedVariables false
/-- The relation 'it is a slice of these places'. -/
def isI (L : List Int) : Rel := fun w v => ∃ A n c, v = .slice A n c ∧ Reads w w.heap.size 1 A n (ics L)
theorem isI_stable (L : List Int) : ∀ w w' v, Below w.heap.size w w' → isI L w v → isI L w' v :=
  fun _ _ _ hb ⟨A, n, c, hv, hn⟩ => ⟨A, n, c, hv, (hn.below hb).more hb.size⟩
theorem call_isI {f : FuncId} {args : Array Value} {w' : World} {L : List Int} (h : Calls Tryz.prog f args w' fun e w'' => ∃ A n c, e = .returned (.slice A n c) ∧ Reads w'' w''.heap.size 1 A n (ics L) ∧ Below w'.heap.size w' w'') :
    Calls Tryz.prog f args w' fun e w'' => ∃ v, e = .returned v ∧ Below w'.heap.size w' w'' ∧ isI L w'' v :=
  h.mono fun _ _ ⟨A, n, c, he, hr, hb⟩ => ⟨_, he, hb, A, n, c, rfl, hr⟩
theorem slice_def_ (A : Option Addr) (n c : Nat) : Value.slice A n c ≠ undef := by intro h; cases h
theorem cell_reg_ {w : World} {p : Addr} {v : Value} (h : w.cell? p = some v) (hp : p.block < w.heap.size) (d : Nat) (os : Array Obj) : (Sort.grow (redrawn w d) os).cell? p = some v :=
  ((below_regrown w d os).cell hp).trans h
theorem len_ics {w : World} {B n : Nat} {A : Option Addr} {L : List Int} (h : Reads w B 1 A n (ics L)) : n = L.length := by
  have := h.1; rw [ics_length] at this; omega
end Go.Proofs.YtjbjdoioallpkaaGreatDoor.Span
/-
  The contract of the document's Check: which needs may be. Condition: the slices read as needs, of at most 1,000,000,001 spans each; names of at most 1,000,000,000 bytes.
-/
namespace Go.Proofs.YtjbjdoioallpkaaGreatDoor.Need
open Go Go.RowKit Go.Lib Go.Proofs.YtjbjdoioallpkaaGreatDoor.Span Go.Proofs.YtjbjdoioallpkaaGreatDoor.Grow
open Go.Proofs.YtjbjdoioallpkaaGreatDoor.Label (runes fitL refFit_any)
set_option linter.unusedVariables false
def Names9 (l : List Nd) : Prop := ∀ q ∈ l, q.1.size ≤ 1000000000 ∧ q.2.length ≤ 1000000001
theorem call_isC_b {f : FuncId} {args : Array Value} {w' : World} {c : Value} (h : Calls Tryz.prog f args w' fun e w'' => e = .returned c ∧ ∃ k, w'' = w'.drewN k) :
    Calls Tryz.prog f args w' fun e w'' => ∃ v, e = .returned v ∧ Below w'.heap.size w' w'' ∧ isC c w'' v :=
  h.mono fun _ _ ⟨he, k, hw⟩ => ⟨_, he, by rw [hw]; exact quiet_b k, rfl⟩
set_option maxHeartbeats 8000000 in
set_option maxRecDepth 100000 in
theorem refCheckN_any (l : List Nd) (A : Option Addr) (n c : Nat) (w : World) (h : NdOn w A n l) (hl : Names9 l) (hn : n ≤ 140737488355328) :
    Calls Tryz.prog 6 #[.slice A n c] w fun e w' => e = .returned (.bool (okS l)) ∧ Below w.heap.size w w' := by
  have hlen := h.len
  have e : okS l = (okFrom ByteArray.empty l && decide (n ≤ 6)) := by unfold okS; rw [hlen]
  have Hl : Hid (okS l = (okFrom ByteArray.empty l && decide (n ≤ 6))) := hide e
  have Hd := hide (fun a i q => @ok_drop l a i q)
  clear e
  generalize okS l = L at *
  obtain ⟨F, hF⟩ : ∃ F, F = okFrom ByteArray.empty l := ⟨_, rfl⟩
  rw [← hF] at Hl
  have HF := hide hF
  have Hlen := hide hlen
  clear hF hlen
  go_enter Tryz.func6, Tryz.ntmps6
  go_wp2
  go_loopw [3] (fun v wr => ∃ (i : Nat) (p : ByteArray), i ≤ n ∧ v = .int .i64 (i : Int) ∧ Hid (i = 0 → p = ByteArray.empty) ∧ Hid (∀ j, i = j + 1 → ∃ q, l[j]? = some q ∧ q.1 = p) ∧ Hid (F = okFrom p (l.drop i)) ∧ Below w.heap.size w wr) (fun v _ => n - (RowKit.intOf v).toNat)
  case atStart => exact ⟨0, ByteArray.empty, by omega, rfl, hide (fun _ => rfl), hide (fun j hj => by omega), HF, Below.refl _ _⟩
  case round =>
    obtain ⟨i, p, hi, rfl, hp0, hp1, hf, hb⟩ := hrel
    by_cases hlt : i < n
    · have hR := NdIn.below h hb
      obtain ⟨ad, q, A', n', c', rfl, hbl, hx, hs, c1, c2⟩ := NdIn.at_ hR hlt
      obtain ⟨hq1, hq2⟩ := hl q (List.mem_of_getElem? hx)
      have hd := hf.out.trans (Hd.out p i q hx)
      have hbs := hb.size
      have q1 := cell_reg_ c1 (by rw [block_of_add]; omega)
      have q2 := cell_reg_ c2 (by simp only [block_of_add]; omega)
      have Hnx := hide (fun j (hj : i + 1 = j + 1) => show ∃ q' : Nd, l[j]? = some q' ∧ q'.1 = q.1 from ⟨q, by rw [← Nat.succ.inj hj]; exact hx, rfl⟩)
      have hi1 : (0 : Int) ≤ (i : Int) := by omega
      have hi2 : (i : Int) < (n : Int) := by omega
      obtain ⟨nm, s⟩ := q
      simp only [] at q1 q2 hs hq1 hq2 hd Hnx
      have hsl := hs.1
      have HC := hide (fun (wx : World) (hbx : Below wr.heap.size wr wx) => @refCheck_any _ _ c' A' s wx (hs.below (hbx.mono hb.size)) (by omega))
      have HW := hide (fun (wx : World) => refFit_any nm wx hq1)
      rw [hsl] at hd
      have Hd2 := hide hd
      have Hemp := hide (fun (g : fitL (runes nm 0) = true) => nlt_empty g)
      have htri := tri nm p
      clear hs hq1 hq2 hd hsl c1 c2
      generalize fitL (runes nm 0) = y at *
      generalize isSet (-1) s = z at *
      cases y
      · have e : Hid (F = false) := hide (by rw [Hd2.out]; rfl)
        clear Hd2 htri Hemp hp1 hR Hnx
        go_upto_region 4 with fail
        refine wp_region_grow [(15, isC (.bool false)), (23, isC (.bool false))] [15, 23]
          (by kernel_rfl) (by kernel_rfl) rfl (by kernel_rfl) (by kernel_rfl) ⟨isC_stable _, isC_stable _, trivial⟩ ?_
        repeat (first
          | (refine lex_skip rfl ?_; simp only [Act.put, List.setIfInBounds_toArray, List.set_cons_zero, List.set_cons_succ])
          | (refine lex_quiet rfl rfl rfl (fun K hK => ?_); unfold Reg; go_big_quiet_op; refine hK _ ?_; clear hK K)
          | (refine lex_rel rfl rfl (fun w' hb9 hK => ?_) (fun v w' hb9 hv => ?_)
             · unfold grows
               go_simp
               first
                 | (go_at_call 18
                    exact call_isC (HW.out w'))
                 | (go_at_call 19
                    exact call_isC_b (HC.out w' hb9))
             obtain rfl := hv
             simp only [Act.put, List.setIfInBounds_toArray, List.set_cons_zero, List.set_cons_succ]))
        refine lex_nil (fun w9 hC9 _ => ?_)
        have hb9 := reg_iff.1 hC9
        clear q1 q2
        go_wp2
        go_ret
        exact ⟨by rw [Hl.out, e.out]; rfl, hb.trans (hb9.mono hbs)⟩
      · cases z
        · have e : Hid (F = false) := hide (by rw [Hd2.out]; simp)
          clear Hd2 htri Hemp hp1 hR Hnx
          go_upto_region 4 with fail
          refine wp_region_grow [(15, isC (.bool true)), (23, isC (.bool false))] [15, 23]
            (by kernel_rfl) (by kernel_rfl) rfl (by kernel_rfl) (by kernel_rfl) ⟨isC_stable _, isC_stable _, trivial⟩ ?_
          repeat (first
            | (refine lex_skip rfl ?_; simp only [Act.put, List.setIfInBounds_toArray, List.set_cons_zero, List.set_cons_succ])
            | (refine lex_quiet rfl rfl rfl (fun K hK => ?_); unfold Reg; go_big_quiet_op; refine hK _ ?_; clear hK K)
            | (refine lex_rel rfl rfl (fun w' hb9 hK => ?_) (fun v w' hb9 hv => ?_)
               · unfold grows
                 go_simp
                 first
                   | (go_at_call 18
                      exact call_isC (HW.out w'))
                   | (go_at_call 19
                      exact call_isC_b (HC.out w' hb9))
               obtain rfl := hv
               simp only [Act.put, List.setIfInBounds_toArray, List.set_cons_zero, List.set_cons_succ]))
          refine lex_nil (fun w9 hC9 _ => ?_)
          have hb9 := reg_iff.1 hC9
          clear q1 q2
          go_wp2
          go_ret
          exact ⟨by rw [Hl.out, e.out]; rfl, hb.trans (hb9.mono hbs)⟩
        · by_cases h6 : 6 < n'
          · have e : Hid (F = false) := hide (by rw [Hd2.out, decide_eq_false (by omega)]; simp)
            have h6z : (6 : Int) < (n' : Int) := by omega
            clear Hd2 htri Hemp hp1 hR Hnx
            go_upto_region 4 with fail
            refine wp_region_grow [(15, isC (.bool true)), (23, isC (.bool true))] [15, 23]
              (by kernel_rfl) (by kernel_rfl) rfl (by kernel_rfl) (by kernel_rfl) ⟨isC_stable _, isC_stable _, trivial⟩ ?_
            repeat (first
              | (refine lex_skip rfl ?_; simp only [Act.put, List.setIfInBounds_toArray, List.set_cons_zero, List.set_cons_succ])
              | (refine lex_quiet rfl rfl rfl (fun K hK => ?_); unfold Reg; go_big_quiet_op; refine hK _ ?_; clear hK K)
              | (refine lex_rel rfl rfl (fun w' hb9 hK => ?_) (fun v w' hb9 hv => ?_)
                 · unfold grows
                   go_simp
                   first
                     | (go_at_call 18
                        exact call_isC (HW.out w'))
                     | (go_at_call 19
                        exact call_isC_b (HC.out w' hb9))
                 obtain rfl := hv
                 simp only [Act.put, List.setIfInBounds_toArray, List.set_cons_zero, List.set_cons_succ]))
            refine lex_nil (fun w9 hC9 _ => ?_)
            have hb9 := reg_iff.1 hC9
            clear q1 q2
            go_wp2
            go_ret
            exact ⟨by rw [Hl.out, e.out]; rfl, hb.trans (hb9.mono hbs)⟩
          · have h6z : ¬ (6 : Int) < (n' : Int) := by omega
            rw [decide_eq_true (show n' ≤ 6 by omega)] at Hd2
            by_cases h0 : i = 0
            · have e : Hid (F = okFrom nm (l.drop (i + 1))) := hide (by rw [Hd2.out, hp0.out h0, Hemp.out (by first | rfl | trivial)]; rfl)
              have h0z : ¬ 0 < i := by omega
              clear Hd2 htri Hemp hp1 hR h0
              go_upto_region 4 with fail
              refine wp_region_grow [(15, isC (.bool true)), (23, isC (.bool true))] [15, 23]
                (by kernel_rfl) (by kernel_rfl) rfl (by kernel_rfl) (by kernel_rfl) ⟨isC_stable _, isC_stable _, trivial⟩ ?_
              repeat (first
                | (refine lex_skip rfl ?_; simp only [Act.put, List.setIfInBounds_toArray, List.set_cons_zero, List.set_cons_succ])
                | (refine lex_quiet rfl rfl rfl (fun K hK => ?_); unfold Reg; go_big_quiet_op; refine hK _ ?_; clear hK K)
                | (refine lex_rel rfl rfl (fun w' hb9 hK => ?_) (fun v w' hb9 hv => ?_)
                   · unfold grows
                     go_simp
                     first
                       | (go_at_call 18
                          exact call_isC (HW.out w'))
                       | (go_at_call 19
                          exact call_isC_b (HC.out w' hb9))
                   obtain rfl := hv
                   simp only [Act.put, List.setIfInBounds_toArray, List.set_cons_zero, List.set_cons_succ]))
              refine lex_nil (fun w9 hC9 _ => ?_)
              have hb9 := reg_iff.1 hC9
              clear q1 q2
              go_wp2
              go_roundw
              case rel => exact ⟨i + 1, nm, by omega, by go_num, hide (fun h => by omega), Hnx, e, hb.trans (hb9.mono hbs)⟩
              case measure => simp [RowKit.intOf]; omega
            · obtain ⟨j, hj⟩ : ∃ j, i = j + 1 := ⟨i - 1, by omega⟩
              obtain ⟨q', hx', hq'⟩ := hp1.out j hj
              obtain ⟨ad', q'', A'', n'', c'', e', _, hx'', _, c1', _⟩ := NdIn.at_ hR (k := j) (by omega)
              injection e' with e'
              subst e'
              rw [hx'] at hx''
              injection hx'' with hx''
              subst hx''
              rw [hq'] at c1'
              have q3 := cell_reg_ c1' (by rw [block_of_add]; omega)
              have h0z : 0 < i := by omega
              have j1 : (0 : Int) ≤ (j : Int) := by omega
              have j2 : (j : Int) < (n : Int) := by omega
              have j3 : IntKind.i64.wrap ((i : Int) - 1) = (j : Int) := by rw [IntKind.wrap_i64]; omega
              have Hj := hide hj
              clear hj hx' hq' c1' hR hp1 Hemp h0
              rcases htri with ⟨f1, f2, f3⟩ | ⟨f1, f2, f3⟩ | ⟨f1, f2, f3⟩
              · have e : Hid (F = false) := hide (by rw [Hd2.out, f2]; simp)
                clear Hd2 f2 Hnx
                go_upto_region 4 with fail
                refine wp_region_grow [(15, isC (.bool true)), (23, isC (.bool true))] [15, 23]
                  (by kernel_rfl) (by kernel_rfl) rfl (by kernel_rfl) (by kernel_rfl) ⟨isC_stable _, isC_stable _, trivial⟩ ?_
                repeat (first
                  | (refine lex_skip rfl ?_; simp only [Act.put, List.setIfInBounds_toArray, List.set_cons_zero, List.set_cons_succ])
                  | (refine lex_quiet rfl rfl rfl (fun K hK => ?_); unfold Reg; go_big_quiet_op; refine hK _ ?_; clear hK K)
                  | (refine lex_rel rfl rfl (fun w' hb9 hK => ?_) (fun v w' hb9 hv => ?_)
                     · unfold grows
                       go_simp
                       first
                         | (go_at_call 18
                            exact call_isC (HW.out w'))
                         | (go_at_call 19
                            exact call_isC_b (HC.out w' hb9))
                     obtain rfl := hv
                     simp only [Act.put, List.setIfInBounds_toArray, List.set_cons_zero, List.set_cons_succ]))
                refine lex_nil (fun w9 hC9 _ => ?_)
                have hb9 := reg_iff.1 hC9
                clear q1 q2
                go_wp2
                go_ret
                exact ⟨by rw [Hl.out, e.out]; rfl, hb.trans (hb9.mono hbs)⟩
              · have e : Hid (F = false) := hide (by rw [Hd2.out, f2]; simp)
                clear Hd2 f2 Hnx
                go_upto_region 4 with fail
                refine wp_region_grow [(15, isC (.bool true)), (23, isC (.bool true))] [15, 23]
                  (by kernel_rfl) (by kernel_rfl) rfl (by kernel_rfl) (by kernel_rfl) ⟨isC_stable _, isC_stable _, trivial⟩ ?_
                repeat (first
                  | (refine lex_skip rfl ?_; simp only [Act.put, List.setIfInBounds_toArray, List.set_cons_zero, List.set_cons_succ])
                  | (refine lex_quiet rfl rfl rfl (fun K hK => ?_); unfold Reg; go_big_quiet_op; refine hK _ ?_; clear hK K)
                  | (refine lex_rel rfl rfl (fun w' hb9 hK => ?_) (fun v w' hb9 hv => ?_)
                     · unfold grows
                       go_simp
                       first
                         | (go_at_call 18
                            exact call_isC (HW.out w'))
                         | (go_at_call 19
                            exact call_isC_b (HC.out w' hb9))
                     obtain rfl := hv
                     simp only [Act.put, List.setIfInBounds_toArray, List.set_cons_zero, List.set_cons_succ]))
                refine lex_nil (fun w9 hC9 _ => ?_)
                have hb9 := reg_iff.1 hC9
                clear q1 q2
                go_wp2
                go_ret
                exact ⟨by rw [Hl.out, e.out]; rfl, hb.trans (hb9.mono hbs)⟩
              · have e : Hid (F = okFrom nm (l.drop (i + 1))) := hide (by rw [Hd2.out, f2]; rfl)
                clear Hd2 f2
                go_upto_region 4 with fail
                refine wp_region_grow [(15, isC (.bool true)), (23, isC (.bool true))] [15, 23]
                  (by kernel_rfl) (by kernel_rfl) rfl (by kernel_rfl) (by kernel_rfl) ⟨isC_stable _, isC_stable _, trivial⟩ ?_
                repeat (first
                  | (refine lex_skip rfl ?_; simp only [Act.put, List.setIfInBounds_toArray, List.set_cons_zero, List.set_cons_succ])
                  | (refine lex_quiet rfl rfl rfl (fun K hK => ?_); unfold Reg; go_big_quiet_op; refine hK _ ?_; clear hK K)
                  | (refine lex_rel rfl rfl (fun w' hb9 hK => ?_) (fun v w' hb9 hv => ?_)
                     · unfold grows
                       go_simp
                       first
                         | (go_at_call 18
                            exact call_isC (HW.out w'))
                         | (go_at_call 19
                            exact call_isC_b (HC.out w' hb9))
                     obtain rfl := hv
                     simp only [Act.put, List.setIfInBounds_toArray, List.set_cons_zero, List.set_cons_succ]))
                refine lex_nil (fun w9 hC9 _ => ?_)
                have hb9 := reg_iff.1 hC9
                clear q1 q2
                go_wp2
                go_roundw
                case rel => exact ⟨i + 1, nm, by omega, by go_num, hide (fun h => by omega), Hnx, e, hb.trans (hb9.mono hbs)⟩
                case measure => simp [RowKit.intOf]; omega
    · have hi2 : i = n := by omega
      have e : Hid (F = true) := hide (by rw [hf.out, List.drop_of_length_le (by have := Hlen.out; omega)]; rfl)
      clear hf
      by_cases h6 : n ≤ 6
      · have h6z : (n : Int) ≤ 6 := by omega
        go_wp2
        go_ret
        exact ⟨by rw [Hl.out, e.out, decide_eq_true h6]; rfl, hb⟩
      · have h6z : ¬ (n : Int) ≤ 6 := by omega
        go_wp2
        go_ret
        exact ⟨by rw [Hl.out, e.out, decide_eq_false h6]; rfl, hb⟩
end Go.Proofs.YtjbjdoioallpkaaGreatDoor.Need
/-
  Contract of the document's Check: which manifests may be. Condition: releases, needs, names and sets of a length that may be walked.
-/
namespace Go.Proofs.YtjbjdoioallpkaaGreatDoor.Mani
open Go Go.RowKit Go.Lib Go.Proofs.YtjbjdoioallpkaaGreatDoor.Span Go.Proofs.YtjbjdoioallpkaaGreatDoor.Need Go.Proofs.YtjbjdoioallpkaaGreatDoor.Grow
open Go.Proofs.YtjbjdoioallpkaaGreatDoor.Label (runes fitL refFit_any)
set_option linter.unusedVariables false
theorem placeFit_any (p : Int) (w : World) : Calls Tryz.prog 27 #[.int .i64 p] w fun e w' => e = .returned (.bool (decide (0 ≤ p) && decide (p < 1000000000))) ∧ w = w' := by
  by_cases h0 : 0 ≤ p
  · by_cases h1 : p < 1000000000
    · rw [decide_eq_true h0, decide_eq_true h1]
      go_enter Tryz.func27, Tryz.ntmps27
      go_wp2
      go_ret
      exact ⟨by simp, rfl⟩
    · rw [decide_eq_true h0, decide_eq_false h1]
      go_enter Tryz.func27, Tryz.ntmps27
      go_wp2
      go_ret
      exact ⟨by simp, rfl⟩
  · rw [decide_eq_false h0]
    go_enter Tryz.func27, Tryz.ntmps27
    go_wp2
    go_ret
    exact ⟨by simp, rfl⟩
theorem Fine.names9 {l : List Nd} (h : Fine l) : Names9 l := fun q hq => by have := h.2 q hq; omega
set_option maxHeartbeats 8000000 in
set_option maxRecDepth 100000 in
theorem refCheckM_any (nm : ByteArray) (l : List Rl) (A : Option Addr) (n c : Nat) (w : World) (h : RlOn w A n l) (hl : FineR l) (hnm : nm.size ≤ 1000000000) :
    Calls Tryz.prog 92 #[.agg #[.string nm, .slice A n c]] w (Tells w (.bool (okM nm l))) := by
  unfold Tells
  have hlen := h.len
  have hn : n ≤ 30 := by rw [← hlen]; exact hl.1
  have Hl : Hid (okM nm l = (okR (-1) l && (fitL (runes nm 0) && decide (n ≤ 8)))) := hide (by unfold okM; rw [hlen])
  have Hd := hide (fun a i q => @okR_drop l a i q)
  have HF := hide (fun wx => refFit_any nm wx hnm)
  generalize okM nm l = L at *
  generalize fitL (runes nm 0) = y at *
  obtain ⟨F, hF⟩ : ∃ F, F = okR (-1) l := ⟨_, rfl⟩
  rw [← hF] at Hl
  have HF0 := hide hF
  have Hlen := hide hlen
  clear hF hlen hnm
  go_enter Tryz.func92, Tryz.ntmps92
  go_wp2
  go_loopw [3] (fun v wr => ∃ (i : Nat) (a : Int), i ≤ n ∧ v = .int .i64 (i : Int) ∧ -1 ≤ a ∧ Hid (i = 0 → a = -1) ∧ Hid (∀ j, i = j + 1 → 0 ≤ a ∧ ∃ q, l[j]? = some q ∧ q.1 = a) ∧ Hid (F = okR a (l.drop i)) ∧ Blk wr w.heap.size 95 #[.string nm, .slice A n c] ∧ Below w.heap.size w wr) (fun v _ => n - (RowKit.intOf v).toNat)
  case atStart => exact ⟨0, -1, by omega, rfl, by omega, hide (fun _ => rfl), hide (fun j hj => by omega), HF0, Blk.new _ _ _, (Below.refl _ _).alloc (Nat.le_refl _) _⟩
  case round =>
    obtain ⟨i, a, hi, rfl, ha, hp0, hp1, hf, hk, hb⟩ := hrel
    have hbs := hb.size
    have m1 := hk.cell 1
    by_cases hlt : i < n
    · have hR := RlIn.below h hb
      obtain ⟨ad, q, A', n', c', rfl, hbl, hx, hs, c1, c2⟩ := RlIn.at_ hR hlt
      have hq := hl.2 q (List.mem_of_getElem? hx)
      have hd := hf.out.trans (Hd.out a i q hx)
      have Hnx := hide (fun j (hj : i + 1 = j + 1) (h0 : 0 ≤ q.1) => show 0 ≤ q.1 ∧ ∃ q' : Rl, l[j]? = some q' ∧ q'.1 = q.1 from ⟨h0, q, by rw [← Nat.succ.inj hj]; exact hx, rfl⟩)
      have hi1 : (0 : Int) ≤ (i : Int) := by omega
      have hi2 : (i : Int) < (n : Int) := by omega
      obtain ⟨z, s⟩ := q
      simp only [] at c1 c2 hs hq hd Hnx
      have hsl := hs.len
      have HC := hide (fun (wx : World) (hbx : Below wr.heap.size wr wx) => refCheckN_any s A' n' c' wx (NdOn.on (hs.more hbs) hbx) hq.names9 (by have := hq.1; omega))
      have HW := hide (fun (wx : World) => placeFit_any z wx)
      have Hd2 := hide hd
      have hpv : ∀ j, i = j + 1 → ∃ A'' n'' c'', wr.cell? (ad.add (j * 2)) = some (.int .i64 a) ∧ 0 ≤ a := fun j hj => by
        obtain ⟨h0, q', hx', hq'⟩ := hp1.out j hj
        obtain ⟨ad', q'', A'', n'', c'', e', _, hx'', _, c1', _⟩ := RlIn.at_ hR (k := j) (by omega)
        injection e' with e'
        subst e'
        rw [hx'] at hx''
        injection hx'' with hx''
        subst hx''
        rw [hq'] at c1'
        exact ⟨A'', n'', c'', c1', h0⟩
      have Hpv := hide hpv
      clear hs hq hd hsl hp1 hR hx hf hpv h hl
      generalize okS s = v at *
      go_upto_region 5 with fail
      obtain ⟨w5, hw5⟩ : ∃ w5, w5 = wr.alloc (.cells #[.int .i64 z, .slice A' n' c'] 77) := ⟨_, rfl⟩
      have hB5 : Blk w5 wr.heap.size 77 #[.int .i64 z, .slice A' n' c'] := by rw [hw5]; exact Blk.new _ _ _
      have hk5 : Blk w5 w.heap.size 95 #[.string nm, .slice (some ad) n c] := by rw [hw5]; exact hk.alloc _
      have hb5' : Below wr.heap.size wr w5 := by rw [hw5]; exact alloc_b _
      have hb5 : Below w.heap.size w w5 := hb.trans (hb5'.mono hbs)
      have hbs5 := hb5.size
      try rw [← hw5]
      clear hw5 m1 c1 c2
      have q1 := cell_reg_ ((hk5.cell 1).trans rfl) hk5.lt
      have q2 := cell_reg_ ((hB5.cell 0).trans rfl) hB5.lt
      have q3 := cell_reg_ ((hB5.cell 1).trans rfl) hB5.lt
      by_cases hy : 0 ≤ z ∧ z < 1000000000
      · have hy1 : (decide (0 ≤ z) && decide (z < 1000000000)) = true := by simp [hy.1, hy.2]
        rw [hy1] at HW
        rw [decide_eq_true hy.2] at Hd2
        cases v
        · have e : Hid (F = false) := hide (by rw [Hd2.out]; simp)
          clear Hd2 Hpv
          refine wp_region_grow [(19, isC (.bool true)), (24, isC (.bool false))] [19, 24]
            (by kernel_rfl) (by kernel_rfl) rfl (by kernel_rfl) (by kernel_rfl) ⟨isC_stable _, isC_stable _, trivial⟩ ?_
          repeat (first
            | (refine lex_skip rfl ?_; simp only [Act.put, List.setIfInBounds_toArray, List.set_cons_zero, List.set_cons_succ])
            | (refine lex_quiet rfl rfl rfl (fun K hK => ?_); unfold Reg; go_big_quiet_op; refine hK _ ?_; clear hK K)
            | (refine lex_rel rfl rfl (fun w' hb9 hK => ?_) (fun v w' hb9 hv => ?_)
               · unfold grows
                 go_simp
                 first
                   | (go_at_call 27
                      exact call_isC_same ((HW.out w').mono fun _ _ ⟨he, hw⟩ => ⟨he, hw⟩))
                   | (go_at_call 6
                      exact call_isC (HC.out w' (hb5'.trans (hb9.mono hb5'.size))))
               obtain rfl := hv
               simp only [Act.put, List.setIfInBounds_toArray, List.set_cons_zero, List.set_cons_succ]))
          refine lex_nil (fun w9 hC9 _ => ?_)
          have hb9 := reg_iff.1 hC9
          clear hC9
          clear q1 q2 q3
          go_wp2
          go_ret
          exact ⟨by rw [Hl.out, e.out]; rfl, hb5.trans (hb9.mono hbs5)⟩
        · by_cases h0 : i = 0
          · have e : Hid (F = okR z (l.drop (i + 1))) := hide (by rw [Hd2.out, hp0.out h0, decide_eq_true (by omega)]; rfl)
            have h0z : ¬ 0 < i := by omega
            have h0y : ¬ (0 : Int) < (i : Int) := by omega
            clear Hd2 Hpv h0
            refine wp_region_grow [(19, isC (.bool true)), (24, isC (.bool true))] [19, 24]
              (by kernel_rfl) (by kernel_rfl) rfl (by kernel_rfl) (by kernel_rfl) ⟨isC_stable _, isC_stable _, trivial⟩ ?_
            repeat (first
              | (refine lex_skip rfl ?_; simp only [Act.put, List.setIfInBounds_toArray, List.set_cons_zero, List.set_cons_succ])
              | (refine lex_quiet rfl rfl rfl (fun K hK => ?_); unfold Reg; go_big_quiet_op; refine hK _ ?_; clear hK K)
              | (refine lex_rel rfl rfl (fun w' hb9 hK => ?_) (fun v w' hb9 hv => ?_)
                 · unfold grows
                   go_simp
                   first
                     | (go_at_call 27
                        exact call_isC_same ((HW.out w').mono fun _ _ ⟨he, hw⟩ => ⟨he, hw⟩))
                     | (go_at_call 6
                        exact call_isC (HC.out w' (hb5'.trans (hb9.mono hb5'.size))))
                 obtain rfl := hv
                 simp only [Act.put, List.setIfInBounds_toArray, List.set_cons_zero, List.set_cons_succ]))
            refine lex_nil (fun w9 hC9 _ => ?_)
            have hb9 := reg_iff.1 hC9
            clear hC9
            clear q1 q2 q3
            have hk9 := hk5.below hb9 hk5.lt
            go_wp2
            go_roundw
            case rel => exact ⟨i + 1, z, by omega, by go_num, by omega, hide (fun h => by omega), hide (fun j hj => Hnx.out j hj hy.1), e, hk9, hb5.trans (hb9.mono hbs5)⟩
            case measure => simp [RowKit.intOf]; omega
          · obtain ⟨j, hj⟩ : ∃ j, i = j + 1 := ⟨i - 1, by omega⟩
            obtain ⟨_, _, _, cp, ha0⟩ := Hpv.out j hj
            have cp5 := (hb5'.cell (p := ad.add (j * 2)) (by rw [block_of_add]; omega)).trans cp
            have q4 := cell_reg_ cp5 (by rw [block_of_add]; omega)
            have h0z : 0 < i := by omega
            have j1 : (0 : Int) ≤ (j : Int) := by omega
            have j2 : (j : Int) < (n : Int) := by omega
            have j3 : IntKind.i64.wrap ((i : Int) - 1) = (j : Int) := by rw [IntKind.wrap_i64]; omega
            have Hj := hide hj
            clear hj Hpv h0 cp cp5
            by_cases haz : a < z
            · have e : Hid (F = okR z (l.drop (i + 1))) := hide (by rw [Hd2.out, decide_eq_true haz]; rfl)
              have haz2 : ¬ z ≤ a := by omega
              clear Hd2
              refine wp_region_grow [(19, isC (.bool true)), (24, isC (.bool true))] [19, 24]
                (by kernel_rfl) (by kernel_rfl) rfl (by kernel_rfl) (by kernel_rfl) ⟨isC_stable _, isC_stable _, trivial⟩ ?_
              repeat (first
                | (refine lex_skip rfl ?_; simp only [Act.put, List.setIfInBounds_toArray, List.set_cons_zero, List.set_cons_succ])
                | (refine lex_quiet rfl rfl rfl (fun K hK => ?_); unfold Reg; go_big_quiet_op; refine hK _ ?_; clear hK K)
                | (refine lex_rel rfl rfl (fun w' hb9 hK => ?_) (fun v w' hb9 hv => ?_)
                   · unfold grows
                     go_simp
                     first
                       | (go_at_call 27
                          exact call_isC_same ((HW.out w').mono fun _ _ ⟨he, hw⟩ => ⟨he, hw⟩))
                       | (go_at_call 6
                          exact call_isC (HC.out w' (hb5'.trans (hb9.mono hb5'.size))))
                   obtain rfl := hv
                   simp only [Act.put, List.setIfInBounds_toArray, List.set_cons_zero, List.set_cons_succ]))
              refine lex_nil (fun w9 hC9 _ => ?_)
              have hb9 := reg_iff.1 hC9
              clear hC9
              clear q1 q2 q3 q4
              have hk9 := hk5.below hb9 hk5.lt
              go_wp2
              go_roundw
              case rel => exact ⟨i + 1, z, by omega, by go_num, by omega, hide (fun h => by omega), hide (fun j hj => Hnx.out j hj hy.1), e, hk9, hb5.trans (hb9.mono hbs5)⟩
              case measure => simp [RowKit.intOf]; omega
            · have e : Hid (F = false) := hide (by rw [Hd2.out, decide_eq_false haz]; rfl)
              have haz2 : z ≤ a := by omega
              clear Hd2
              refine wp_region_grow [(19, isC (.bool true)), (24, isC (.bool true))] [19, 24]
                (by kernel_rfl) (by kernel_rfl) rfl (by kernel_rfl) (by kernel_rfl) ⟨isC_stable _, isC_stable _, trivial⟩ ?_
              repeat (first
                | (refine lex_skip rfl ?_; simp only [Act.put, List.setIfInBounds_toArray, List.set_cons_zero, List.set_cons_succ])
                | (refine lex_quiet rfl rfl rfl (fun K hK => ?_); unfold Reg; go_big_quiet_op; refine hK _ ?_; clear hK K)
                | (refine lex_rel rfl rfl (fun w' hb9 hK => ?_) (fun v w' hb9 hv => ?_)
                   · unfold grows
                     go_simp
                     first
                       | (go_at_call 27
                          exact call_isC_same ((HW.out w').mono fun _ _ ⟨he, hw⟩ => ⟨he, hw⟩))
                       | (go_at_call 6
                          exact call_isC (HC.out w' (hb5'.trans (hb9.mono hb5'.size))))
                   obtain rfl := hv
                   simp only [Act.put, List.setIfInBounds_toArray, List.set_cons_zero, List.set_cons_succ]))
              refine lex_nil (fun w9 hC9 _ => ?_)
              have hb9 := reg_iff.1 hC9
              clear hC9
              clear q1 q2 q3 q4
              go_wp2
              go_ret
              exact ⟨by rw [Hl.out, e.out]; rfl, hb5.trans (hb9.mono hbs5)⟩
      · have hy1 : (decide (0 ≤ z) && decide (z < 1000000000)) = false := by
          rw [Bool.eq_false_iff]; simp; omega
        rw [hy1] at HW
        have e : Hid (F = false) := hide (by
          rw [Hd2.out]
          by_cases h1 : a < z
          · rw [decide_eq_false (show ¬ z < 1000000000 by omega)]; simp
          · rw [decide_eq_false h1]; rfl)
        clear Hd2 Hpv
        refine wp_region_grow [(19, isC (.bool false)), (24, isC (.bool false))] [19, 24]
          (by kernel_rfl) (by kernel_rfl) rfl (by kernel_rfl) (by kernel_rfl) ⟨isC_stable _, isC_stable _, trivial⟩ ?_
        repeat (first
          | (refine lex_skip rfl ?_; simp only [Act.put, List.setIfInBounds_toArray, List.set_cons_zero, List.set_cons_succ])
          | (refine lex_quiet rfl rfl rfl (fun K hK => ?_); unfold Reg; go_big_quiet_op; refine hK _ ?_; clear hK K)
          | (refine lex_rel rfl rfl (fun w' hb9 hK => ?_) (fun v w' hb9 hv => ?_)
             · unfold grows
               go_simp
               first
                 | (go_at_call 27
                    exact call_isC_same ((HW.out w').mono fun _ _ ⟨he, hw⟩ => ⟨he, hw⟩))
                 | (go_at_call 6
                    exact call_isC (HC.out w' (hb5'.trans (hb9.mono hb5'.size))))
             obtain rfl := hv
             simp only [Act.put, List.setIfInBounds_toArray, List.set_cons_zero, List.set_cons_succ]))
        refine lex_nil (fun w9 hC9 _ => ?_)
        have hb9 := reg_iff.1 hC9
        clear hC9
        clear q1 q2 q3
        go_wp2
        go_ret
        exact ⟨by rw [Hl.out, e.out]; rfl, hb5.trans (hb9.mono hbs5)⟩
    · have hi2 : i = n := by omega
      have e : Hid (F = true) := hide (by rw [hf.out, List.drop_of_length_le (by have := Hlen.out; omega)]; rfl)
      have k0 := hk.cell 0
      clear hf
      cases y
      · go_wp2_with (go_at_call 18
                     refine (HF.out _).mono ?_
                     rintro e w1 ⟨rfl, hb1⟩
                     have hbw := hb.trans (hb1.mono hbs))
        go_ret
        exact ⟨by rw [Hl.out, e.out]; rfl, hbw⟩
      · by_cases h6 : n ≤ 8
        · have h6z : (n : Int) ≤ 8 := by omega
          go_wp2_with (go_at_call 18
                       refine (HF.out _).mono ?_
                       rintro e w1 ⟨rfl, hb1⟩
                       have hbw := hb.trans (hb1.mono hbs)
                       have k2 := (hk.below hb1 hk.lt).cell 1)
          go_ret
          exact ⟨by rw [Hl.out, e.out, decide_eq_true h6]; rfl, hbw⟩
        · have h6z : ¬ (n : Int) ≤ 8 := by omega
          go_wp2_with (go_at_call 18
                       refine (HF.out _).mono ?_
                       rintro e w1 ⟨rfl, hb1⟩
                       have hbw := hb.trans (hb1.mono hbs)
                       have k2 := (hk.below hb1 hk.lt).cell 1)
          go_ret
          exact ⟨by rw [Hl.out, e.out, decide_eq_false h6]; show Ending.returned (.bool (decide ((n : Int) ≤ 8))) = _; rw [decide_eq_false (by omega)]; rfl, hbw⟩
end Go.Proofs.YtjbjdoioallpkaaGreatDoor.Mani

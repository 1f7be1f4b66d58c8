/-
  Some texts of this claim, one behind the other: DepotRow, DepotRefCheck, DepotSame. What each proves, and its condition, stands at its head.
-/
import Derived.Test.YtbagekkcakfhgaaZ21
import Derived.Test.YtbagekkcakfhgaaZ19
import Derived.Test.YtbagekkcakfhgaaZ13
import Derived.Test.YtbagekkcakfhgaaZ23
import Derived.Test.YtbagekkcakfhgaaZ15
/-
  Words for a region that makes an entry and appends it: bytes, an entry, a row of one entry as relations; what the append writes; the conversion of a text to bytes. No condition.
-/
namespace Go.Proofs.Ytbagekkcakfhgaa.Depot
open Go Go.RowKit Go.Lib Go.Proofs.Ytbagekkcakfhgaa.Span Go.Proofs.Ytbagekkcakfhgaa.Need Go.Proofs.Ytbagekkcakfhgaa.Mani Go.Proofs.Ytbagekkcakfhgaa.Wire Go.Proofs.Ytbagekkcakfhgaa.Grow
set_option linter.unusedVariables false
def bR (L : List UInt8) : Rel := fun w v => ∃ A n c, v = .slice A n c ∧ InB w A n L
theorem bR_stable (L : List UInt8) : ∀ w w' v, Below w.heap.size w w' → bR L w v → bR L w' v := fun _ _ _ hb ⟨A, n, c, hv, h⟩ => ⟨A, n, c, hv, h.below hb⟩
def entV (nm : ByteArray) (L : List UInt8) : Rel := fun w v => ∃ A n c, v = .agg #[.string nm, .slice A n c] ∧ InB w A n L
theorem entV_stable (nm : ByteArray) (L : List UInt8) : ∀ w w' v, Below w.heap.size w w' → entV nm L w v → entV nm L w' v := fun _ _ _ hb ⟨A, n, c, hv, h⟩ => ⟨A, n, c, hv, h.below hb⟩
def rowE (nm : ByteArray) (L : List UInt8) : Rel := fun w v => ∃ A c A' n' c', v = .slice A 1 c ∧ Reads w w.heap.size 2 A 1 (rcs [(nm, .slice A' n' c')]) ∧ InB w A' n' L
theorem rowE_stable (nm : ByteArray) (L : List UInt8) : ∀ w w' v, Below w.heap.size w w' → rowE nm L w v → rowE nm L w' v :=
  fun _ _ _ hb ⟨A, c, A', n', c', hv, hr, h⟩ => ⟨A, c, A', n', c', hv, (hr.below hb).more hb.size, h.below hb⟩
theorem slice_d (A : Option Addr) (n c : Nat) : Value.slice A n c ≠ undef := by intro h; cases h
theorem agg_d (l : Array Value) : Value.agg l ≠ undef := by intro h; cases h
theorem string_d (s : ByteArray) : Value.string s ≠ undef := by intro h; cases h
/-- An entry more is appended. -/
def putsE (B n : Nat) (rs : List Rw) (x : Value) (nm : ByteArray) (L : List UInt8) : Wr := fun w1 v w2 =>
  ∃ A' n' c', InB w1 A' n' L ∧ w2.ownsRow B 46 2 v (n + 1) (rcs rs ++ rcs [(nm, .slice A' n' c')]) ∧ w1.grownBy w2 x.ownBlock
section
variable {B B0 n : Nat} {rs : List Rw} {x : Value} {nm : ByteArray} {L : List UInt8} {w w1 w2 : World} {v : Value} {out : List En}
theorem putsE_told (hN : Ens w1 B x n rs out) (h : putsE B n rs x nm L w1 v w2) : ∃ rs', Ens w2 B v (n + 1) rs' (out ++ [(nm, L)]) := by
  obtain ⟨A', n', c', hI, hown, hg⟩ := h
  exact ⟨_, hN.cat (AllB.one hI) hown hg⟩
theorem putsE_slice (h : putsE B n rs x nm L w1 v w2) : ∃ A c, v = .slice A (n + 1) c := by
  obtain ⟨A', n', c', hI, hown, hg⟩ := h
  obtain ⟨A, c, e, _⟩ := own_form hown
  exact ⟨A, c, e⟩
theorem putsE_below (hN : Ens w1 B x n rs out) (hb : Below B w w1) (hB : B ≤ w1.heap.size) (h : putsE B n rs x nm L w1 v w2) : Below B w w2 := by
  obtain ⟨A', n', c', hI, hown, hg⟩ := h
  exact hb.grown hg hB fun k hk => (hN.1.lt k hk).1
end
/-- '[]byte(s)', as the walk of a region asks it. -/
theorem grows_convS {o : Oper} {a : Act} {w : World} {R : Value → World → Prop} {t : Nat} {s : ByteArray} (ho : o.op = .convert 9 31 (.tmp t)) (hx : a.eval (.tmp t) = .string s)
    (h : ∀ C W', InB W' (some ⟨w.heap.size, 0, none⟩) s.size s.data.toList → Below w.heap.size w W' → R (.slice (some ⟨w.heap.size, 0, none⟩) s.size C) W') : grows Try.prog o a w R := by
  unfold grows execOp
  simp only [ho, hx, Sem.run_bind, run_bytes_of_string (P := Try.prog) w 9 31 5 s Try.underlying9 Try.underlying31 Try.underlying5, Result.andThen_ok, Sem.run_pure]
  exact h _ _ (inB_conv w s _ _) (((Below.refl _ _).drew).alloc (Nat.le_refl _) _)
end Go.Proofs.Ytbagekkcakfhgaa.Depot
/-
  The contract of the document's Check: which depots may be. Condition: the slices read as entries; names of at most 1,000,000,000 bytes.
-/
namespace Go.Proofs.Ytbagekkcakfhgaa.Depot
open Go Go.RowKit Go.Lib Go.Proofs.Ytbagekkcakfhgaa.Span Go.Proofs.Ytbagekkcakfhgaa.Need Go.Proofs.Ytbagekkcakfhgaa.Mani Go.Proofs.Ytbagekkcakfhgaa.Wire Go.Proofs.Ytbagekkcakfhgaa.Grow
open Go.Proofs.Ytbagekkcakfhgaa.Label (runes fitL refFit_any)
set_option linter.unusedVariables false
set_option maxHeartbeats 8000000 in
set_option maxRecDepth 100000 in
theorem refCheckD_any (l : List En) (A : Option Addr) (n c : Nat) (w : World) (h : EnOn w A n l) (hl : ∀ q ∈ l, q.1.size ≤ 1000000000) (hn : n ≤ 140737488355328) :
    Calls Try.prog 8 #[.slice A n c] w (Tells w (.bool (okE l))) := by
  unfold Tells
  have hlen := h.len
  have e : okE l = (okD ByteArray.empty l && decide (n ≤ 24)) := by unfold okE; rw [hlen]
  have Hl : Hid (okE l = (okD ByteArray.empty l && decide (n ≤ 24))) := hide e
  have Hd := hide (fun a i q => @okD_drop l a i q)
  clear e
  generalize okE l = L at *
  obtain ⟨F, hF⟩ : ∃ F, F = okD ByteArray.empty l := ⟨_, rfl⟩
  rw [← hF] at Hl
  have HF := hide hF
  have Hlen := hide hlen
  clear hF hlen
  go_enter Try.func8, Try.ntmps8
  go_wp2
  go_loopw [3] (fun v wr => ∃ (i : Nat) (p : ByteArray), i ≤ n ∧ v = .int .i64 (i : Int) ∧ Hid (i = 0 → p = ByteArray.empty) ∧ Hid (∀ j, i = j + 1 → ∃ q, l[j]? = some q ∧ q.1 = p) ∧ Hid (F = okD p (l.drop i)) ∧ Below w.heap.size w wr) (fun v _ => n - (RowKit.intOf v).toNat)
  case atStart => exact ⟨0, ByteArray.empty, by omega, rfl, hide (fun _ => rfl), hide (fun j hj => by omega), HF, Below.refl _ _⟩
  case round =>
    obtain ⟨i, p, hi, rfl, hp0, hp1, hf, hb⟩ := hrel
    by_cases hlt : i < n
    · have hR := EnIn.below h hb
      obtain ⟨ad, q, A', n', c', rfl, hbl, hx, hs, c1, c2⟩ := PIn.at_ hR hlt
      have hq1 := hl q (List.mem_of_getElem? hx)
      have hd := hf.out.trans (Hd.out p i q hx)
      have hbs := hb.size
      have q1 := cell_reg_ c1 (by rw [block_of_add]; omega)
      have q2 := cell_reg_ c2 (by simp only [block_of_add]; omega)
      have Hnx := hide (fun j (hj : i + 1 = j + 1) => show ∃ q' : En, l[j]? = some q' ∧ q'.1 = q.1 from ⟨q, by rw [← Nat.succ.inj hj]; exact hx, rfl⟩)
      have hi1 : (0 : Int) ≤ (i : Int) := by omega
      have hi2 : (i : Int) < (n : Int) := by omega
      obtain ⟨nm, s⟩ := q
      have hsl : s.length = n' := by have : (bcs s).length = n' * 1 := hs.1; rw [bcs_length] at this; omega
      simp only [] at q1 q2 hq1 hd Hnx
      have HW := hide (fun (wx : World) => refFit_any nm wx hq1)
      rw [hsl] at hd
      have Hd2 := hide hd
      have Hemp := hide (fun (g : fitL (runes nm 0) = true) => nlt_empty g)
      have htri := tri nm p
      clear hs hq1 hd hsl c1 c2
      generalize fitL (runes nm 0) = y at *
      cases y
      · have e : Hid (F = false) := hide (by rw [Hd2.out]; simp)
        clear Hd2 htri Hemp hp1 hR Hnx
        go_upto_region 4 with fail
        refine wp_region_grow [(15, isC (.bool false))] [15]
          (by kernel_rfl) (by kernel_rfl) rfl (by kernel_rfl) (by kernel_rfl) ⟨isC_stable _, trivial⟩ ?_
        repeat (first
          | (refine lex_skip rfl ?_; simp only [Act.put, List.setIfInBounds_toArray, List.set_cons_zero, List.set_cons_succ])
          | (refine lex_quiet rfl rfl rfl (fun K hK => ?_); unfold Reg; go_big_quiet_op; refine hK _ ?_; clear hK K)
          | (refine lex_rel rfl rfl (fun w' hb9 hK => ?_) (fun v w' hb9 hv => ?_)
             · unfold grows
               go_simp
               go_at_call 9
               exact call_isC (HW.out w')
             obtain rfl := hv
             simp only [Act.put, List.setIfInBounds_toArray, List.set_cons_zero, List.set_cons_succ]))
        refine lex_nil (fun w9 hC9 _ => ?_)
        have hb9 := reg_iff.1 hC9
        clear q1 q2
        go_wp2
        go_ret
        exact ⟨by rw [Hl.out, e.out]; rfl, hb.trans (hb9.mono hbs)⟩
      · by_cases h6 : 8192 < n'
        · have e : Hid (F = false) := hide (by rw [Hd2.out, decide_eq_false (show ¬ n' ≤ 8192 by omega)]; simp)
          have h6z : (8192 : Int) < (n' : Int) := by omega
          clear Hd2 htri Hemp hp1 hR Hnx
          go_upto_region 4 with fail
          refine wp_region_grow [(15, isC (.bool true))] [15]
            (by kernel_rfl) (by kernel_rfl) rfl (by kernel_rfl) (by kernel_rfl) ⟨isC_stable _, trivial⟩ ?_
          repeat (first
            | (refine lex_skip rfl ?_; simp only [Act.put, List.setIfInBounds_toArray, List.set_cons_zero, List.set_cons_succ])
            | (refine lex_quiet rfl rfl rfl (fun K hK => ?_); unfold Reg; go_big_quiet_op; refine hK _ ?_; clear hK K)
            | (refine lex_rel rfl rfl (fun w' hb9 hK => ?_) (fun v w' hb9 hv => ?_)
               · unfold grows
                 go_simp
                 go_at_call 9
                 exact call_isC (HW.out w')
               obtain rfl := hv
               simp only [Act.put, List.setIfInBounds_toArray, List.set_cons_zero, List.set_cons_succ]))
          refine lex_nil (fun w9 hC9 _ => ?_)
          have hb9 := reg_iff.1 hC9
          clear q1 q2
          go_wp2
          go_ret
          exact ⟨by rw [Hl.out, e.out]; rfl, hb.trans (hb9.mono hbs)⟩
        · have h6z : ¬ (8192 : Int) < (n' : Int) := by omega
          rw [decide_eq_true (show n' ≤ 8192 by omega)] at Hd2
          by_cases h0 : i = 0
          · have e : Hid (F = okD nm (l.drop (i + 1))) := hide (by rw [Hd2.out, hp0.out h0, Hemp.out (by first | rfl | trivial)]; rfl)
            have h0z : ¬ 0 < i := by omega
            clear Hd2 htri Hemp hp1 hR h0
            go_upto_region 4 with fail
            refine wp_region_grow [(15, isC (.bool true))] [15]
              (by kernel_rfl) (by kernel_rfl) rfl (by kernel_rfl) (by kernel_rfl) ⟨isC_stable _, trivial⟩ ?_
            repeat (first
              | (refine lex_skip rfl ?_; simp only [Act.put, List.setIfInBounds_toArray, List.set_cons_zero, List.set_cons_succ])
              | (refine lex_quiet rfl rfl rfl (fun K hK => ?_); unfold Reg; go_big_quiet_op; refine hK _ ?_; clear hK K)
              | (refine lex_rel rfl rfl (fun w' hb9 hK => ?_) (fun v w' hb9 hv => ?_)
                 · unfold grows
                   go_simp
                   go_at_call 9
                   exact call_isC (HW.out w')
                 obtain rfl := hv
                 simp only [Act.put, List.setIfInBounds_toArray, List.set_cons_zero, List.set_cons_succ]))
            refine lex_nil (fun w9 hC9 _ => ?_)
            have hb9 := reg_iff.1 hC9
            clear q1 q2
            go_wp2
            go_roundw
            case rel => exact ⟨i + 1, nm, by omega, by go_num, hide (fun h => by omega), Hnx, e, hb.trans (hb9.mono hbs)⟩
            case measure => simp [RowKit.intOf]; omega
          · obtain ⟨j, hj⟩ : ∃ j, i = j + 1 := ⟨i - 1, by omega⟩
            obtain ⟨q', hx', hq'⟩ := hp1.out j hj
            obtain ⟨ad', q'', A'', n'', c'', e', _, hx'', _, c1', _⟩ := PIn.at_ hR (k := j) (by omega)
            injection e' with e'
            subst e'
            rw [hx'] at hx''
            injection hx'' with hx''
            subst hx''
            rw [hq'] at c1'
            have q3 := cell_reg_ c1' (by rw [block_of_add]; omega)
            have h0z : 0 < i := by omega
            have j1 : (0 : Int) ≤ (j : Int) := by omega
            have j2 : (j : Int) < (n : Int) := by omega
            have j3 : IntKind.i64.wrap ((i : Int) - 1) = (j : Int) := by rw [IntKind.wrap_i64]; omega
            have Hj := hide hj
            clear hj hx' hq' c1' hR hp1 Hemp h0
            rcases htri with ⟨f1, f2, f3⟩ | ⟨f1, f2, f3⟩ | ⟨f1, f2, f3⟩
            · have e : Hid (F = false) := hide (by rw [Hd2.out, f2]; simp)
              clear Hd2 f2 Hnx
              go_upto_region 4 with fail
              refine wp_region_grow [(15, isC (.bool true))] [15]
                (by kernel_rfl) (by kernel_rfl) rfl (by kernel_rfl) (by kernel_rfl) ⟨isC_stable _, trivial⟩ ?_
              repeat (first
                | (refine lex_skip rfl ?_; simp only [Act.put, List.setIfInBounds_toArray, List.set_cons_zero, List.set_cons_succ])
                | (refine lex_quiet rfl rfl rfl (fun K hK => ?_); unfold Reg; go_big_quiet_op; refine hK _ ?_; clear hK K)
                | (refine lex_rel rfl rfl (fun w' hb9 hK => ?_) (fun v w' hb9 hv => ?_)
                   · unfold grows
                     go_simp
                     go_at_call 9
                     exact call_isC (HW.out w')
                   obtain rfl := hv
                   simp only [Act.put, List.setIfInBounds_toArray, List.set_cons_zero, List.set_cons_succ]))
              refine lex_nil (fun w9 hC9 _ => ?_)
              have hb9 := reg_iff.1 hC9
              clear q1 q2
              go_wp2
              go_ret
              exact ⟨by rw [Hl.out, e.out]; rfl, hb.trans (hb9.mono hbs)⟩
            · have e : Hid (F = false) := hide (by rw [Hd2.out, f2]; simp)
              clear Hd2 f2 Hnx
              go_upto_region 4 with fail
              refine wp_region_grow [(15, isC (.bool true))] [15]
                (by kernel_rfl) (by kernel_rfl) rfl (by kernel_rfl) (by kernel_rfl) ⟨isC_stable _, trivial⟩ ?_
              repeat (first
                | (refine lex_skip rfl ?_; simp only [Act.put, List.setIfInBounds_toArray, List.set_cons_zero, List.set_cons_succ])
                | (refine lex_quiet rfl rfl rfl (fun K hK => ?_); unfold Reg; go_big_quiet_op; refine hK _ ?_; clear hK K)
                | (refine lex_rel rfl rfl (fun w' hb9 hK => ?_) (fun v w' hb9 hv => ?_)
                   · unfold grows
                     go_simp
                     go_at_call 9
                     exact call_isC (HW.out w')
                   obtain rfl := hv
                   simp only [Act.put, List.setIfInBounds_toArray, List.set_cons_zero, List.set_cons_succ]))
              refine lex_nil (fun w9 hC9 _ => ?_)
              have hb9 := reg_iff.1 hC9
              clear q1 q2
              go_wp2
              go_ret
              exact ⟨by rw [Hl.out, e.out]; rfl, hb.trans (hb9.mono hbs)⟩
            · have e : Hid (F = okD nm (l.drop (i + 1))) := hide (by rw [Hd2.out, f2]; rfl)
              clear Hd2 f2
              go_upto_region 4 with fail
              refine wp_region_grow [(15, isC (.bool true))] [15]
                (by kernel_rfl) (by kernel_rfl) rfl (by kernel_rfl) (by kernel_rfl) ⟨isC_stable _, trivial⟩ ?_
              repeat (first
                | (refine lex_skip rfl ?_; simp only [Act.put, List.setIfInBounds_toArray, List.set_cons_zero, List.set_cons_succ])
                | (refine lex_quiet rfl rfl rfl (fun K hK => ?_); unfold Reg; go_big_quiet_op; refine hK _ ?_; clear hK K)
                | (refine lex_rel rfl rfl (fun w' hb9 hK => ?_) (fun v w' hb9 hv => ?_)
                   · unfold grows
                     go_simp
                     go_at_call 9
                     exact call_isC (HW.out w')
                   obtain rfl := hv
                   simp only [Act.put, List.setIfInBounds_toArray, List.set_cons_zero, List.set_cons_succ]))
              refine lex_nil (fun w9 hC9 _ => ?_)
              have hb9 := reg_iff.1 hC9
              clear q1 q2
              go_wp2
              go_roundw
              case rel => exact ⟨i + 1, nm, by omega, by go_num, hide (fun h => by omega), Hnx, e, hb.trans (hb9.mono hbs)⟩
              case measure => simp [RowKit.intOf]; omega
    · have hi2 : i = n := by omega
      have e : Hid (F = true) := hide (by rw [hf.out, List.drop_of_length_le (by have := Hlen.out; omega)]; rfl)
      clear hf
      by_cases h6 : n ≤ 24
      · have h6z : (n : Int) ≤ 24 := by omega
        go_wp2
        go_ret
        exact ⟨by rw [Hl.out, e.out, decide_eq_true h6]; rfl, hb⟩
      · have h6z : ¬ (n : Int) ≤ 24 := by omega
        go_wp2
        go_ret
        exact ⟨by rw [Hl.out, e.out, decide_eq_false h6]; rfl, hb⟩
end Go.Proofs.Ytbagekkcakfhgaa.Depot
/-
  The contract of the document's Same at two depots that are alike: true. Condition: as many entries as may be walked.
-/
namespace Go.Proofs.Ytbagekkcakfhgaa.Depot
open Go Go.RowKit Go.Lib Go.Proofs.Ytbagekkcakfhgaa.Span Go.Proofs.Ytbagekkcakfhgaa.Need Go.Proofs.Ytbagekkcakfhgaa.Mani Go.Proofs.Ytbagekkcakfhgaa.Wire Go.Proofs.Ytbagekkcakfhgaa.Grow
set_option linter.unusedVariables false
set_option maxHeartbeats 4000000 in
set_option maxRecDepth 100000 in
theorem sameD_yes (l : List En) (A A' : Option Addr) (n c n' c' : Nat) (w : World) (h : EnOn w A n l) (h' : EnOn w A' n' l) (hn : n ≤ 140737488355328) :
    Calls Try.prog 21 #[.slice A n c, .slice A' n' c'] w (Tells w (.bool true)) := by
  unfold Tells
  obtain rfl : n = n' := by rw [← h.len, ← h'.len]
  go_enter Try.func21, Try.ntmps21
  go_wp2
  go_loopw [5] (fun v wr => ∃ (i : Nat), i ≤ n ∧ v = .int .i64 (i : Int) ∧ Below w.heap.size w wr) (fun v _ => n - (RowKit.intOf v).toNat)
  case atStart => exact ⟨0, by omega, rfl, Below.refl _ _⟩
  case round =>
    obtain ⟨i, hi, rfl, hb⟩ := hrel
    by_cases hlt : i < n
    · obtain ⟨ad, q, B1, m1, e1, rfl, hbl, hx, hs, c1, c2⟩ := PIn.at_ (h.on hb) hlt
      obtain ⟨ad', q', B2, m2, e2, rfl, hbl', hx', hs', c1', c2'⟩ := PIn.at_ (h'.on hb) hlt
      rw [hx] at hx'
      injection hx' with hx'
      subst hx'
      obtain ⟨x, s⟩ := q
      have hs1 : Reads wr wr.heap.size 1 B1 m1 (bcs s) := hs
      have hs2 : Reads wr wr.heap.size 1 B2 m2 (bcs s) := hs'
      have hcv1 := conv_reg (c := e1) hs1
      have hcv2 := conv_reg (c := e2) hs2
      have hi1 : (0 : Int) ≤ (i : Int) := by omega
      have hi2 : (i : Int) < (n : Int) := by omega
      have g1 : (x.toList == x.toList) = true := beq_self_eq_true _
      have g2 : (x.toList != x.toList) = false := bne_self_eq_false _
      have g3 : ((str s).toList == (str s).toList) = true := beq_self_eq_true _
      have g4 : ((str s).toList != (str s).toList) = false := bne_self_eq_false _
      simp only at c1 c1'
      have q1 := cell_reg_ c1 (by rw [block_of_add]; omega)
      have q2 := cell_reg_ c2 (by simp only [block_of_add]; omega)
      have q3 := cell_reg_ c1' (by rw [block_of_add]; omega)
      have q4 := cell_reg_ c2' (by simp only [block_of_add]; omega)
      clear hx hs hs' hs1 hs2 c1 c2 c1' c2'
      generalize str s = S at *
      go_upto_region 6 with fail
      refine wp_region_grow [] []
        (by kernel_rfl) (by kernel_rfl) rfl (by kernel_rfl) (by kernel_rfl) trivial ?_
      repeat (first
        | (refine lex_skip rfl ?_; simp only [Act.put, List.setIfInBounds_toArray, List.set_cons_zero, List.set_cons_succ])
        | (refine lex_quiet rfl rfl rfl (fun K hK => ?_); unfold Reg; go_big_quiet_op; refine hK _ ?_; clear hK K))
      refine lex_nil (fun w9 hC9 _ => ?_)
      have hb9 := reg_iff.1 hC9
      clear q1 q2 q3 q4 hcv1 hcv2
      go_wp2
      go_roundw
      case rel => exact ⟨i + 1, by omega, by go_num, hb.trans (hb9.mono hb.size)⟩
      case measure => simp [RowKit.intOf]; omega
    · have hi2 : i = n := by omega
      go_wp2
      go_ret
      exact ⟨rfl, hb⟩
end Go.Proofs.Ytbagekkcakfhgaa.Depot

/-
  Some texts of this claim, one behind the other: SpanDo, SpanOn, TermTold. What each proves, and its condition, stands at its head.
-/
import Derived.Test.YtpicnbidbddggaaGreatDoorX23
import Derived.Test.YtpicnbidbddggaaGreatDoorX15
import Derived.Test.YtpicnbidbddggaaGreatDoorX16
import Derived.Deep.RegionLaw
import Derived.Test.YtpicnbidbddggaaGreatDoorX24
import Derived.Test.YtpicnbidbddggaaGreatDoorX11
/-
  The contract of the document's Do, and of Union, Meet, Not, Of over it: the set of the places that an operation keeps. Condition: at most 10,000 spans each.
-/
namespace Go.Proofs.YtpicnbidbddggaaGreatDoor.Span
open Go Go.RowKit Go.Lib
set_option linter.unusedVariables false
def keptD (op : Int) (a b : List S) (p : Int) : Bool := toldM op (has a p) (has b p)
noncomputable def doS (op : Int) (a b : List S) : List S := nf (keptD op a b)
end Go.Proofs.YtpicnbidbddggaaGreatDoor.Span
/-
  The contracts of layer 6 in one form: slices that read so in the world at hand; what was made stays. And the chapter's examples (awake). No condition beyond each contract's own.
-/
namespace Go.Proofs.YtpicnbidbddggaaGreatDoor.Span
open Go Go.RowKit Go.Lib
set_option linter.unusedVariables false
section
variable {A A' : Option Addr} {n c n' c' : Nat} {l m : List S} {w : World}
theorem makes_of {f : FuncId} {args : Array Value} {B : Nat} {L : List S} (h : Calls Tryz.prog f args w fun e w' => ∃ A n c, e = .returned (.slice A n c) ∧ NewS w' B A n c L ∧ Below w.heap.size w w') :
    Calls Tryz.prog f args w (Makes w L) := h.mono fun _ _ ⟨A, n, c, he, hN, hb⟩ => ⟨A, n, c, he, hN.2.2.2, hb⟩
theorem refCheck_on (h : SpOn w A n l) (hn : n ≤ 1000000001) : Calls Tryz.prog 18 #[.slice A n c] w (Tells w (.bool (isSet (-1) l))) := tells_drew (refCheck_any w h hn)
theorem same_on (h : SpOn w A n l) (h' : SpOn w A' n' m) (hn : n ≤ 1000000001) (hn' : n' ≤ 1000000001) : Calls Tryz.prog 107 #[.slice A n c, .slice A' n' c'] w (Tells w (.bool (decide (l = m)))) := tells_drew (same_any w h h' hn hn')
theorem refSame_on (h : SpOn w A n l) (h' : SpOn w A' n' m) (hn : n ≤ 1000000001) (hn' : n' ≤ 1000000001) : Calls Tryz.prog 113 #[.slice A n c, .slice A' n' c'] w (Tells w (.bool (decide (l = m)))) := tells_drew (refSame_any w h h' hn hn')
theorem refHas_on (p : Int) (h : SpOn w A n l) (hn : n ≤ 1000000001) (hs : isSet (-1) l = true) : Calls Tryz.prog 84 #[.slice A n c, .int .i64 p] w (Tells w (.bool (has l p))) := by
  have := tells_same (refHas_any (c := c) p w h hn)
  have e : (has l p && (decide (0 ≤ p) && decide (p < 1000000000))) = has l p := by
    cases hh : has l p with
    | false => rfl
    | true => have := has_range hs hh; simp; omega
  rwa [e] at this
end
end Go.Proofs.YtpicnbidbddggaaGreatDoor.Span
/-
  Contracts of term's Check, Full, Empty, Has, Same and Within, of the program and the document, and of the statements' Large: what each tells of terms. Condition: sets of at most 1,000,000,001 spans (the document's Within: 1,000), names of at most 1,000,000,000 bytes.
-/
namespace Go.Proofs.YtpicnbidbddggaaGreatDoor.Term
open Go Go.RowKit Go.Lib Go.Proofs.YtpicnbidbddggaaGreatDoor.Span Go.Proofs.YtpicnbidbddggaaGreatDoor.Need Go.Proofs.YtpicnbidbddggaaGreatDoor.Grow
open Go.Proofs.YtpicnbidbddggaaGreatDoor.Label (runes fitL fit_any refFit_any)
set_option linter.unusedVariables false
theorem len_zero {A : Option Addr} {n : Nat} {l : List S} {w : World} (h : SpOn w A n l) : ((n : Int) == 0) = decide (l = []) := by
  have := h.len
  rw [Bool.eq_iff_iff, decide_eq_true_iff, beq_iff_eq, ← List.length_eq_zero_iff]
  omega
set_option maxHeartbeats 4000000 in
set_option maxRecDepth 100000 in
theorem refCheckT_any (nm : ByteArray) (s : List S) (z : Bool) (A : Option Addr) (n c : Nat) (w : World) (h : SpOn w A n s) (hnm : nm.size ≤ 1000000000) (hn : n ≤ 1000000001) :
    Calls Tryz.prog 71 #[.agg #[.string nm, .slice A n c, .bool z]] w (Tells w (.bool (fitL (runes nm 0) && isSet (-1) s))) := by
  have HF := hide (fun (wx : World) => refFit_any nm wx hnm)
  have HC := hide (fun (wx : World) (hb : Below w.heap.size w wx) => refCheck_on (c := c) (h.on hb) hn)
  unfold Tells at HC ⊢
  generalize isSet (-1) s = b2 at *
  generalize fitL (runes nm 0) = b1 at *
  have hba := alloc_b (w := w) (.cells #[.string nm, .slice A n c, .bool z] 63)
  have bk := Blk.new w 63 #[.string nm, .slice A n c, .bool z]
  clear h hnm hn
  cases b1 with
  | false =>
    go_enter Tryz.func71, Tryz.ntmps71
    go_wp2_with (first
      | (go_at_call 17
         refine (HF.out _).mono ?_
         rintro e w1 ⟨rfl, hb1⟩
         have hbw := hba.trans (hb1.mono hba.size)))
    go_ret
    exact ⟨rfl, hbw⟩
  | true =>
    go_enter Tryz.func71, Tryz.ntmps71
    go_wp2_with (first
      | (go_at_call 18
         refine (HC.out _ hbw).mono ?_
         rintro e w2 ⟨rfl, hb2⟩
         have hbw2 := hbw.trans (hb2.mono hbw.size))
      | (go_at_call 17
         refine (HF.out _).mono ?_
         rintro e w1 ⟨rfl, hb1⟩
         have hbw := hba.trans (hb1.mono hba.size)
         have k1 := (bk.below hb1 bk.lt).cell 1))
    go_ret
    exact ⟨rfl, hbw2⟩
set_option maxHeartbeats 4000000 in
set_option maxRecDepth 100000 in
theorem fullT_any (nm : ByteArray) (s : List S) (z : Bool) (A : Option Addr) (n c : Nat) (w : World) (h : SpOn w A n s) (hn : n ≤ 1000000001) :
    Calls Tryz.prog 67 #[.agg #[.string nm, .slice A n c, .bool z]] w (Tells w (.bool (z && decide (s = allS)))) := by
  have HA := hide (fun (wx : World) => all_any wx)
  have HS := hide (fun (wx : World) (A' : Option Addr) (n' c' : Nat) (hb : Below w.heap.size w wx) (h' : SpOn wx A' n' [((0 : Int), (1000000000 : Int))]) => same_on (c := c) (c' := c') (h.on hb) h' hn (by have := h'.len; simp at this; omega))
  unfold Tells at HS ⊢
  show Calls _ _ _ _ fun e w' => e = .returned (.bool (z && decide (s = [((0 : Int), (1000000000 : Int))]))) ∧ Below w.heap.size w w'
  generalize decide (s = [((0 : Int), (1000000000 : Int))]) = b2 at *
  have hba := alloc_b (w := w) (.cells #[.string nm, .slice A n c, .bool z] 63)
  have bk := Blk.new w 63 #[.string nm, .slice A n c, .bool z]
  clear h hn
  obtain ⟨W, hW⟩ : ∃ W, W = w.alloc (.cells #[.string nm, .slice A n c, .bool z] 63) := ⟨_, rfl⟩
  rw [← hW] at hba bk
  have q0 := cell_reg_ ((bk.cell 2).trans (show (#[Value.string nm, .slice A n c, .bool z] : Array Value)[2]? = some (.bool z) from rfl)) bk.lt
  have q1 := cell_reg_ ((bk.cell 1).trans (show (#[Value.string nm, .slice A n c, .bool z] : Array Value)[1]? = some (.slice A n c) from rfl)) bk.lt
  clear bk
  cases z <;>
  · go_enter Tryz.func67, Tryz.ntmps67
    go_upto_region 1 with fail
    rw [← hW]
    clear hW
    refine wp_region_grow [(8, spR allS), (9, isC (.bool b2))] [8, 9]
      (by kernel_rfl) (by kernel_rfl) rfl (by kernel_rfl) (by kernel_rfl) ⟨spR_stable _, isC_stable _, trivial⟩ ?_
    repeat (first
      | (refine lex_skip rfl ?_; simp only [Act.put, List.setIfInBounds_toArray, List.set_cons_zero, List.set_cons_succ])
      | (refine lex_quiet rfl rfl rfl (fun K hK => ?_); unfold Reg; go_big_quiet_op; refine hK _ ?_; clear hK K)
      | (refine lex_rel rfl rfl (fun w' hb9 hK => ?_) (fun v w' hb9 hv => ?_)
         · unfold grows
           go_simp
           go_at_call 108
           refine (HA.out w').mono ?_
           rintro e w8 ⟨A8, n8, c8, rfl, h8, hb8⟩
           exact ⟨_, rfl, hb8, A8, n8, c8, rfl, h8⟩
         obtain ⟨Av, nv, cv, rfl, hv8⟩ := hv
         simp only [Act.put, List.setIfInBounds_toArray, List.set_cons_zero, List.set_cons_succ])
      | (refine lex_rel rfl rfl (fun w' hb9 hK => ?_) (fun v w' hb9 hv => ?_)
         · obtain ⟨B1, m1, d1, j1, hB1⟩ := hK.at_ 8 rfl rfl (slice_d _ _ _)
           have j1' : Value.slice Av nv cv = .slice B1 m1 d1 := j1
           injection j1' with x1 x2 x3
           rw [← x1, ← x2] at hB1
           clear j1 x1 x2 x3 hK
           unfold grows
           go_simp
           go_at_call 107
           exact call_isC (HS.out w' _ _ _ (hba.trans (hb9.mono hba.size)) hB1)
         obtain rfl := hv
         simp only [Act.put, List.setIfInBounds_toArray, List.set_cons_zero, List.set_cons_succ]))
    refine lex_nil (fun w9 hC9 _ => ?_)
    have hb9 := reg_iff.1 hC9
    clear hC9 q0 q1
    go_wp2
    go_ret
    exact ⟨rfl, hba.trans (hb9.mono hba.size)⟩
set_option maxHeartbeats 4000000 in
set_option maxRecDepth 100000 in
theorem refFullT_any (nm : ByteArray) (s : List S) (z : Bool) (A : Option Addr) (n c : Nat) (w : World) (h : SpOn w A n s) (hn : n ≤ 1000000001) :
    Calls Tryz.prog 72 #[.agg #[.string nm, .slice A n c, .bool z]] w (Tells w (.bool (z && decide (s = allS)))) := by
  have HA := hide (fun (wx : World) => refAll_any wx)
  have HS := hide (fun (wx : World) (A' : Option Addr) (n' c' : Nat) (hb : Below w.heap.size w wx) (h' : SpOn wx A' n' [((0 : Int), (1000000000 : Int))]) => refSame_on (c := c) (c' := c') (h.on hb) h' hn (by have := h'.len; simp at this; omega))
  unfold Tells at HS ⊢
  show Calls _ _ _ _ fun e w' => e = .returned (.bool (z && decide (s = [((0 : Int), (1000000000 : Int))]))) ∧ Below w.heap.size w w'
  generalize decide (s = [((0 : Int), (1000000000 : Int))]) = b2 at *
  have hba := alloc_b (w := w) (.cells #[.string nm, .slice A n c, .bool z] 63)
  have bk := Blk.new w 63 #[.string nm, .slice A n c, .bool z]
  clear h hn
  obtain ⟨W, hW⟩ : ∃ W, W = w.alloc (.cells #[.string nm, .slice A n c, .bool z] 63) := ⟨_, rfl⟩
  rw [← hW] at hba bk
  have q0 := cell_reg_ ((bk.cell 2).trans (show (#[Value.string nm, .slice A n c, .bool z] : Array Value)[2]? = some (.bool z) from rfl)) bk.lt
  have q1 := cell_reg_ ((bk.cell 1).trans (show (#[Value.string nm, .slice A n c, .bool z] : Array Value)[1]? = some (.slice A n c) from rfl)) bk.lt
  clear bk
  cases z <;>
  · go_enter Tryz.func72, Tryz.ntmps72
    go_upto_region 1 with fail
    rw [← hW]
    clear hW
    refine wp_region_grow [(8, spR allS), (9, isC (.bool b2))] [8, 9]
      (by kernel_rfl) (by kernel_rfl) rfl (by kernel_rfl) (by kernel_rfl) ⟨spR_stable _, isC_stable _, trivial⟩ ?_
    repeat (first
      | (refine lex_skip rfl ?_; simp only [Act.put, List.setIfInBounds_toArray, List.set_cons_zero, List.set_cons_succ])
      | (refine lex_quiet rfl rfl rfl (fun K hK => ?_); unfold Reg; go_big_quiet_op; refine hK _ ?_; clear hK K)
      | (refine lex_rel rfl rfl (fun w' hb9 hK => ?_) (fun v w' hb9 hv => ?_)
         · unfold grows
           go_simp
           go_at_call 114
           refine (HA.out w').mono ?_
           rintro e w8 ⟨A8, n8, c8, rfl, h8, hb8⟩
           exact ⟨_, rfl, hb8, A8, n8, c8, rfl, h8⟩
         obtain ⟨Av, nv, cv, rfl, hv8⟩ := hv
         simp only [Act.put, List.setIfInBounds_toArray, List.set_cons_zero, List.set_cons_succ])
      | (refine lex_rel rfl rfl (fun w' hb9 hK => ?_) (fun v w' hb9 hv => ?_)
         · obtain ⟨B1, m1, d1, j1, hB1⟩ := hK.at_ 8 rfl rfl (slice_d _ _ _)
           have j1' : Value.slice Av nv cv = .slice B1 m1 d1 := j1
           injection j1' with x1 x2 x3
           rw [← x1, ← x2] at hB1
           clear j1 x1 x2 x3 hK
           unfold grows
           go_simp
           go_at_call 113
           exact call_isC (HS.out w' _ _ _ (hba.trans (hb9.mono hba.size)) hB1)
         obtain rfl := hv
         simp only [Act.put, List.setIfInBounds_toArray, List.set_cons_zero, List.set_cons_succ]))
    refine lex_nil (fun w9 hC9 _ => ?_)
    have hb9 := reg_iff.1 hC9
    clear hC9 q0 q1
    go_wp2
    go_ret
    exact ⟨rfl, hba.trans (hb9.mono hba.size)⟩
set_option maxHeartbeats 4000000 in
set_option maxRecDepth 100000 in
theorem emptyT_any (nm : ByteArray) (s : List S) (z : Bool) (A : Option Addr) (n c : Nat) (w : World) (h : SpOn w A n s) :
    Calls Tryz.prog 66 #[.agg #[.string nm, .slice A n c, .bool z]] w (Tells w (.bool (!z && decide (s = [])))) := by
  unfold Tells
  rw [← len_zero h]
  have hba := alloc_b (w := w) (.cells #[.string nm, .slice A n c, .bool z] 63)
  have bk := Blk.new w 63 #[.string nm, .slice A n c, .bool z]
  clear h bk
  cases z <;>
  · go_enter Tryz.func66, Tryz.ntmps66
    go_wp2
    go_ret
    exact ⟨rfl, hba⟩
set_option maxHeartbeats 4000000 in
set_option maxRecDepth 100000 in
theorem refEmptyT_any (nm : ByteArray) (s : List S) (z : Bool) (A : Option Addr) (n c : Nat) (w : World) (h : SpOn w A n s) :
    Calls Tryz.prog 73 #[.agg #[.string nm, .slice A n c, .bool z]] w (Tells w (.bool (!z && decide (s = [])))) := by
  unfold Tells
  rw [← len_zero h]
  have hba := alloc_b (w := w) (.cells #[.string nm, .slice A n c, .bool z] 63)
  have bk := Blk.new w 63 #[.string nm, .slice A n c, .bool z]
  clear h bk
  cases z <;>
  · go_enter Tryz.func73, Tryz.ntmps73
    go_wp2
    go_ret
    exact ⟨rfl, hba⟩
set_option maxHeartbeats 4000000 in
set_option maxRecDepth 100000 in
theorem refHasT_any (nm : ByteArray) (s : List S) (z : Bool) (A : Option Addr) (n c : Nat) (w : World) (h : SpOn w A n s) (p : Int) (ch : Bool) (hn : n ≤ 1000000001) (hs : isSet (-1) s = true) :
    Calls Tryz.prog 52 #[.agg #[.string nm, .slice A n c, .bool z], .int .i64 p, .bool ch] w (Tells w (.bool (if ch = true then has s p else z))) := by
  have HH := hide (fun (wx : World) (hb : Below w.heap.size w wx) => refHas_on p (c := c) (h.on hb) hn hs)
  unfold Tells at HH ⊢
  generalize has s p = b2 at *
  have hba := alloc_b (w := w) (.cells #[.string nm, .slice A n c, .bool z] 63)
  have bk := Blk.new w 63 #[.string nm, .slice A n c, .bool z]
  clear h hn hs bk
  cases ch with
  | false =>
    go_enter Tryz.func52, Tryz.ntmps52
    go_wp2
    go_ret
    exact ⟨rfl, hba⟩
  | true =>
    go_enter Tryz.func52, Tryz.ntmps52
    go_wp2_with (first
      | (go_at_call 84
         refine (HH.out _ hba).mono ?_
         rintro e w1 ⟨rfl, hb1⟩
         have hbw := hba.trans (hb1.mono hba.size)))
    go_ret
    exact ⟨rfl, hbw⟩
def largeT (t : Tm) : Bool := decide (60 < t.set.length) || decide (200 < t.name.size)
end Go.Proofs.YtpicnbidbddggaaGreatDoor.Term

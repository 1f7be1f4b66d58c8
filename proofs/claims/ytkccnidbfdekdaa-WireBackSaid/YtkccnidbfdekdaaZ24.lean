/-
  Some texts of this claim, one behind the other: WireBackM, WireBackL, WireBackN, WireBackS, WireBackW. What each proves, and its condition, stands at its head.
-/
import Derived.Test.YtkccnidbfdekdaaZ22
import Derived.Test.YtkccnidbfdekdaaZ15
import Derived.Test.YtkccnidbfdekdaaZ23
/-
  WireBack: what is asked of a manifest that was read; more bytes than are looked at. Condition: lengths as a row bounds them.
-/
namespace Go.Proofs.Ytkccnidbfdekdaa.Wire
open Go Go.RowKit Go.Lib Go.Proofs.Ytkccnidbfdekdaa.Span Go.Proofs.Ytkccnidbfdekdaa.Need Go.Proofs.Ytkccnidbfdekdaa.Mani Go.Proofs.Ytkccnidbfdekdaa.Grow
set_option linter.unusedVariables false
/-- What is asked of a manifest that was read. -/
def AsksX (b : List UInt8) : Prop :=
  (∀ wx A1 n1 c1, RlOn wx A1 n1 (readB b).2 → Calls Try.prog 9 #[.agg #[.string (readB b).1, .slice A1 n1 c1]] wx (MakesB wx b)) ∧
  (∀ wx A1 n1 c1, RlOn wx A1 n1 (readB b).2 → Calls Try.prog 12 #[.agg #[.string (readB b).1, .slice A1 n1 c1]] wx (Tells wx (.bool true)))
theorem asksX (b : List UInt8) (h : errB b = 0) : AsksX b := by
  obtain ⟨h1, h2⟩ := readB_fine b
  obtain ⟨h3, h4⟩ := put_read b h
  refine ⟨fun wx A1 n1 c1 hx => ?_, fun wx A1 n1 c1 hx => ?_⟩
  · have := putM_any (readB b).1 (readB b).2 A1 n1 c1 wx hx h2 h1
    unfold putB at this
    rw [if_pos h3, h4] at this
    exact this
  · have := refCheckM_any (readB b).1 (readB b).2 A1 n1 c1 wx hx h2 h1
    rw [h3] at this
    exact this
set_option maxHeartbeats 8000000 in
set_option maxRecDepth 100000 in
theorem back_long (nm : ByteArray) (A : Option Addr) (n c : Nat) (Ab : Option Addr) (nb cb : Nat) (w : World) (hn2 : 20000 < nb) :
    Calls Try.prog 4 #[.agg #[.string nm, .slice A n c], .slice Ab nb cb] w (Tells w (.bool true)) := by
  have HW := hide (fun wx => awakeW_any wx)
  have hb3 : Below w.heap.size w (w.alloc (.cells #[.string nm, .slice A n c] 24)) := alloc_b _
  unfold Tells at *
  go_enter Try.func4, Try.ntmps4
  go_wp2_with (first
    | (go_at_call 6
       refine (HW.out _).mono ?_
       rintro e w4 ⟨rfl, hb4⟩
       have hbw := hb3.trans (hb4.mono hb3.size)))
  go_ret
  exact ⟨rfl, hbw⟩
end Go.Proofs.Ytkccnidbfdekdaa.Wire
/-
  WireBack where the manifest is more than is looked at. Condition: lengths as a row bounds them.
-/
namespace Go.Proofs.Ytkccnidbfdekdaa.Wire
open Go Go.RowKit Go.Lib Go.Proofs.Ytkccnidbfdekdaa.Span Go.Proofs.Ytkccnidbfdekdaa.Need Go.Proofs.Ytkccnidbfdekdaa.Mani Go.Proofs.Ytkccnidbfdekdaa.Grow
set_option linter.unusedVariables false
set_option maxHeartbeats 8000000 in
set_option maxRecDepth 100000 in
theorem back_large (nm : ByteArray) (l : List Rl) (A : Option Addr) (n c : Nat) (Ab : Option Addr) (nb cb : Nat) (b : List UInt8) (w : World) (h : RlOn w A n l) (hnm : nm.size ≤ maxLen) (hn : n ≤ maxLen) (hq : ∀ q ∈ l, q.2.length ≤ maxLen)
    (hr : Reads w w.heap.size 1 Ab nb (bcs b)) (hn2 : nb ≤ 20000) (g1 : largeM nm l = true) :
    Calls Try.prog 4 #[.agg #[.string nm, .slice A n c], .slice Ab nb cb] w (Tells w (.bool true)) := by
  have HL := hide (fun (wx : World) (hbx : Below w.heap.size w wx) => largeM_any nm l A n c wx (h.on hbx) hq hn hnm)
  have HW := hide (fun wx => awakeW_any wx)
  have HR := hide (fun (wx : World) (hbx : Below w.heap.size w wx) => read_any Ab nb cb b wx ((hr.below hbx).more hbx.size))
  have HX := hide (asksX b)
  have h0 : Below w.heap.size w (w.alloc (.cells #[.string nm, .slice A n c] 24)) := alloc_b _
  have b0 := Blk.new w 24 #[.string nm, .slice A n c]
  unfold AsksX at HX
  unfold Tells ReadsB MakesB at *
  have hst := str_toList
  have Hr := hide hr
  clear hr hnm hn hq
  rw [g1] at HL
  generalize (readB b).1 = xn at *
  generalize (readB b).2 = xl at *
  generalize errB b = er at *
  clear h
  go_enter Try.func4, Try.ntmps4
  go_upto_region 9 with (first
    | (go_at_call 7
       refine (HR.out _ (hb3)).mono ?_
       rintro e w6 ⟨A6, n6, c6, rfl, hx6, hb6'⟩
       have hb6 := (hb3).trans (hb6'.mono (hb3).size))
    | (go_at_call 5
       refine (HL.out _ h0).mono ?_
       rintro e w3 ⟨rfl, hb3'⟩
       have hb3 := h0.trans (hb3'.mono h0.size)
       have d0 := b0.below hb3' b0.lt
       have k0 := (d0.cell 0).trans (show (#[Value.string nm, .slice A n c] : Array Value)[0]? = some (.string nm) from rfl)
       have k1 := (d0.cell 1).trans (show (#[Value.string nm, .slice A n c] : Array Value)[1]? = some (.slice A n c) from rfl)))
  clear HL HR k0 k1 d0 b0
  obtain ⟨W, hW⟩ : ∃ W, W = w6.alloc (.cells #[.string xn, .slice A6 n6 c6] 24) := ⟨_, rfl⟩
  have hbW' : Below w6.heap.size w6 W := by rw [hW]; exact alloc_b _
  have hBx : Blk W w6.heap.size 24 #[.string xn, .slice A6 n6 c6] := by rw [hW]; exact Blk.new _ _ _
  have hbW := hb6.trans (hbW'.mono hb6.size)
  have hxW := hx6.on hbW'
  rw [← hW]
  have hbWs := hbW.size
  have up := hide (fun (wx : World) (hx : Below W.heap.size W wx) => hbW.trans (hx.mono hbWs))
  have q1 := cell_reg_ ((hBx.cell 0).trans rfl) hBx.lt
  have q2 := cell_reg_ ((hBx.cell 1).trans rfl) hBx.lt
  clear hW hbW' hx6
  by_cases he : er = 0
  · obtain ⟨HPX, HCX⟩ := HX.out he
    have HPX := hide HPX
    have HCX := hide HCX
    subst he
    have hcr := conv_reg (c := cb) ((Hr.out.below hbW).more hbWs)
    refine wp_region_grow [(55, isB w.heap.size b), (62, isC (.bool true)), (66, isC (.bool true))] [55, 62, 66]
      (by kernel_rfl) (by kernel_rfl) rfl (by kernel_rfl) (by kernel_rfl) ⟨isB_stable _ _, isC_stable _, isC_stable _, trivial⟩ ?_
    repeat (first
      | (refine lex_skip rfl ?_; simp only [Act.put, List.setIfInBounds_toArray, List.set_cons_zero, List.set_cons_succ])
      | (refine lex_quiet rfl rfl rfl (fun K hK => ?_); unfold Reg; go_big_quiet_op; refine hK _ ?_; clear hK K)
      | (refine lex_convB rfl rfl rfl rfl rfl rfl ?_; simp only [Act.put, List.setIfInBounds_toArray, List.set_cons_zero, List.set_cons_succ])
      | (refine lex_rel rfl rfl (fun w' hb9 hK => ?_) (fun v w' hb9 hv => ?_)
         · unfold grows
           go_simp
           first
             | (go_at_call 9; exact (HPX.out w' _ _ _ (hxW.on hb9)).mono fun _ _ ⟨A, n, c, he, hn, hb1⟩ => ⟨_, he, hb1, A, n, c, rfl, hn.less (up.out _ hb9).size⟩)
             | (go_at_call 12; exact call_isC (HCX.out w' _ _ _ (hxW.on hb9)))
             | (go_at_call 6; exact call_isC (HW.out w'))
         first
           | (obtain rfl := hv
              simp only [Act.put, List.setIfInBounds_toArray, List.set_cons_zero, List.set_cons_succ])
           | (obtain ⟨A3, n3, c3, rfl, hn3⟩ := hv
              simp only [Act.put, List.setIfInBounds_toArray, List.set_cons_zero, List.set_cons_succ])))
    refine lex_nil (fun w9 hC9 _ => ?_)
    have hb9 := reg_iff.1 hC9
    clear hC9
    have hbw := up.out _ hb9
    clear q1 q2
    go_wp2
    go_ret
    exact ⟨rfl, hbw⟩
  · have he2 : (er != 0) = true := bne_iff_ne.2 he
    refine wp_region_grow [(66, isC (.bool true))] [66]
      (by kernel_rfl) (by kernel_rfl) rfl (by kernel_rfl) (by kernel_rfl) ⟨isC_stable _, trivial⟩ ?_
    repeat (first
      | (refine lex_skip rfl ?_; simp only [Act.put, List.setIfInBounds_toArray, List.set_cons_zero, List.set_cons_succ])
      | (refine lex_quiet rfl rfl rfl (fun K hK => ?_); unfold Reg; go_big_quiet_op; refine hK _ ?_; clear hK K)
      | (refine lex_convB rfl rfl rfl rfl rfl rfl ?_; simp only [Act.put, List.setIfInBounds_toArray, List.set_cons_zero, List.set_cons_succ])
      | (refine lex_rel rfl rfl (fun w' hb9 hK => ?_) (fun v w' hb9 hv => ?_)
         · unfold grows
           go_simp
           first
             | (go_at_call 6; exact call_isC (HW.out w'))
         first
           | (obtain rfl := hv
              simp only [Act.put, List.setIfInBounds_toArray, List.set_cons_zero, List.set_cons_succ])
           | (obtain ⟨A3, n3, c3, rfl, hn3⟩ := hv
              simp only [Act.put, List.setIfInBounds_toArray, List.set_cons_zero, List.set_cons_succ])))
    refine lex_nil (fun w9 hC9 _ => ?_)
    have hb9 := reg_iff.1 hC9
    clear hC9
    have hbw := up.out _ hb9
    clear q1 q2
    go_wp2
    go_ret
    exact ⟨rfl, hbw⟩
end Go.Proofs.Ytkccnidbfdekdaa.Wire
/-
  WireBack where the manifest may not be. Condition: lengths as a row bounds them.
-/
namespace Go.Proofs.Ytkccnidbfdekdaa.Wire
open Go Go.RowKit Go.Lib Go.Proofs.Ytkccnidbfdekdaa.Span Go.Proofs.Ytkccnidbfdekdaa.Need Go.Proofs.Ytkccnidbfdekdaa.Mani Go.Proofs.Ytkccnidbfdekdaa.Grow
set_option linter.unusedVariables false
set_option maxHeartbeats 8000000 in
set_option maxRecDepth 100000 in
theorem back_none (nm : ByteArray) (l : List Rl) (A : Option Addr) (n c : Nat) (Ab : Option Addr) (nb cb : Nat) (b : List UInt8) (w : World) (h : RlOn w A n l) (hnm : nm.size ≤ maxLen) (hn : n ≤ maxLen) (hq : ∀ q ∈ l, q.2.length ≤ maxLen)
    (hr : Reads w w.heap.size 1 Ab nb (bcs b)) (hn2 : nb ≤ 20000) (g1 : largeM nm l = false) (g2 : okM nm l = false) :
    Calls Try.prog 4 #[.agg #[.string nm, .slice A n c], .slice Ab nb cb] w (Tells w (.bool true)) := by
  have HL := hide (fun (wx : World) (hbx : Below w.heap.size w wx) => largeM_any nm l A n c wx (h.on hbx) hq hn hnm)
  have HW := hide (fun wx => awakeW_any wx)
  have HR := hide (fun (wx : World) (hbx : Below w.heap.size w wx) => read_any Ab nb cb b wx ((hr.below hbx).more hbx.size))
  have HX := hide (asksX b)
  have h0 : Below w.heap.size w (w.alloc (.cells #[.string nm, .slice A n c] 24)) := alloc_b _
  have b0 := Blk.new w 24 #[.string nm, .slice A n c]
  obtain ⟨sa, fa⟩ := fineR_of g1
  have HC := hide (fun (wx : World) (hbx : Below w.heap.size w wx) => refCheckM_any nm l A n c wx (h.on hbx) fa (by omega))
  rw [g2] at HC
  unfold AsksX at HX
  unfold Tells ReadsB MakesB at *
  have hst := str_toList
  have Hr := hide hr
  clear hr hnm hn hq
  rw [g1] at HL
  generalize (readB b).1 = xn at *
  generalize (readB b).2 = xl at *
  generalize errB b = er at *
  clear h
  go_enter Try.func4, Try.ntmps4
  go_upto_region 9 with (first
    | (go_at_call 7
       refine (HR.out _ (hb4)).mono ?_
       rintro e w6 ⟨A6, n6, c6, rfl, hx6, hb6'⟩
       have hb6 := (hb4).trans (hb6'.mono (hb4).size))
    | (go_at_call 12
       refine (HC.out _ hb3).mono ?_
       rintro e w4 ⟨rfl, hb4'⟩
       have hb4 := hb3.trans (hb4'.mono hb3.size)
       have d4 := d0.below hb4' d0.lt
       have k2 := (d4.cell 0).trans (show (#[Value.string nm, .slice A n c] : Array Value)[0]? = some (.string nm) from rfl)
       have k3 := (d4.cell 1).trans (show (#[Value.string nm, .slice A n c] : Array Value)[1]? = some (.slice A n c) from rfl))
    | (go_at_call 5
       refine (HL.out _ h0).mono ?_
       rintro e w3 ⟨rfl, hb3'⟩
       have hb3 := h0.trans (hb3'.mono h0.size)
       have d0 := b0.below hb3' b0.lt
       have k0 := (d0.cell 0).trans (show (#[Value.string nm, .slice A n c] : Array Value)[0]? = some (.string nm) from rfl)
       have k1 := (d0.cell 1).trans (show (#[Value.string nm, .slice A n c] : Array Value)[1]? = some (.slice A n c) from rfl)))
  clear HL HR HC k0 k1 k2 k3 d0 d4 b0
  obtain ⟨W, hW⟩ : ∃ W, W = w6.alloc (.cells #[.string xn, .slice A6 n6 c6] 24) := ⟨_, rfl⟩
  have hbW' : Below w6.heap.size w6 W := by rw [hW]; exact alloc_b _
  have hBx : Blk W w6.heap.size 24 #[.string xn, .slice A6 n6 c6] := by rw [hW]; exact Blk.new _ _ _
  have hbW := hb6.trans (hbW'.mono hb6.size)
  have hxW := hx6.on hbW'
  rw [← hW]
  have hbWs := hbW.size
  have up := hide (fun (wx : World) (hx : Below W.heap.size W wx) => hbW.trans (hx.mono hbWs))
  have q1 := cell_reg_ ((hBx.cell 0).trans rfl) hBx.lt
  have q2 := cell_reg_ ((hBx.cell 1).trans rfl) hBx.lt
  clear hW hbW' hx6
  by_cases he : er = 0
  · obtain ⟨HPX, HCX⟩ := HX.out he
    have HPX := hide HPX
    have HCX := hide HCX
    subst he
    have hcr := conv_reg (c := cb) ((Hr.out.below hbW).more hbWs)
    refine wp_region_grow [(55, isB w.heap.size b), (62, isC (.bool true)), (66, isC (.bool true))] [55, 62, 66]
      (by kernel_rfl) (by kernel_rfl) rfl (by kernel_rfl) (by kernel_rfl) ⟨isB_stable _ _, isC_stable _, isC_stable _, trivial⟩ ?_
    repeat (first
      | (refine lex_skip rfl ?_; simp only [Act.put, List.setIfInBounds_toArray, List.set_cons_zero, List.set_cons_succ])
      | (refine lex_quiet rfl rfl rfl (fun K hK => ?_); unfold Reg; go_big_quiet_op; refine hK _ ?_; clear hK K)
      | (refine lex_convB rfl rfl rfl rfl rfl rfl ?_; simp only [Act.put, List.setIfInBounds_toArray, List.set_cons_zero, List.set_cons_succ])
      | (refine lex_rel rfl rfl (fun w' hb9 hK => ?_) (fun v w' hb9 hv => ?_)
         · unfold grows
           go_simp
           first
             | (go_at_call 9; exact (HPX.out w' _ _ _ (hxW.on hb9)).mono fun _ _ ⟨A, n, c, he, hn, hb1⟩ => ⟨_, he, hb1, A, n, c, rfl, hn.less (up.out _ hb9).size⟩)
             | (go_at_call 12; exact call_isC (HCX.out w' _ _ _ (hxW.on hb9)))
             | (go_at_call 6; exact call_isC (HW.out w'))
         first
           | (obtain rfl := hv
              simp only [Act.put, List.setIfInBounds_toArray, List.set_cons_zero, List.set_cons_succ])
           | (obtain ⟨A3, n3, c3, rfl, hn3⟩ := hv
              simp only [Act.put, List.setIfInBounds_toArray, List.set_cons_zero, List.set_cons_succ])))
    refine lex_nil (fun w9 hC9 _ => ?_)
    have hb9 := reg_iff.1 hC9
    clear hC9
    have hbw := up.out _ hb9
    clear q1 q2
    go_wp2
    go_ret
    exact ⟨rfl, hbw⟩
  · have he2 : (er != 0) = true := bne_iff_ne.2 he
    refine wp_region_grow [(66, isC (.bool true))] [66]
      (by kernel_rfl) (by kernel_rfl) rfl (by kernel_rfl) (by kernel_rfl) ⟨isC_stable _, trivial⟩ ?_
    repeat (first
      | (refine lex_skip rfl ?_; simp only [Act.put, List.setIfInBounds_toArray, List.set_cons_zero, List.set_cons_succ])
      | (refine lex_quiet rfl rfl rfl (fun K hK => ?_); unfold Reg; go_big_quiet_op; refine hK _ ?_; clear hK K)
      | (refine lex_convB rfl rfl rfl rfl rfl rfl ?_; simp only [Act.put, List.setIfInBounds_toArray, List.set_cons_zero, List.set_cons_succ])
      | (refine lex_rel rfl rfl (fun w' hb9 hK => ?_) (fun v w' hb9 hv => ?_)
         · unfold grows
           go_simp
           first
             | (go_at_call 6; exact call_isC (HW.out w'))
         first
           | (obtain rfl := hv
              simp only [Act.put, List.setIfInBounds_toArray, List.set_cons_zero, List.set_cons_succ])
           | (obtain ⟨A3, n3, c3, rfl, hn3⟩ := hv
              simp only [Act.put, List.setIfInBounds_toArray, List.set_cons_zero, List.set_cons_succ])))
    refine lex_nil (fun w9 hC9 _ => ?_)
    have hb9 := reg_iff.1 hC9
    clear hC9
    have hbw := up.out _ hb9
    clear q1 q2
    go_wp2
    go_ret
    exact ⟨rfl, hbw⟩
end Go.Proofs.Ytkccnidbfdekdaa.Wire
/-
  WireBack where the manifest may be. Condition: lengths as a row bounds them.
-/
namespace Go.Proofs.Ytkccnidbfdekdaa.Wire
open Go Go.RowKit Go.Lib Go.Proofs.Ytkccnidbfdekdaa.Span Go.Proofs.Ytkccnidbfdekdaa.Need Go.Proofs.Ytkccnidbfdekdaa.Mani Go.Proofs.Ytkccnidbfdekdaa.Grow
set_option linter.unusedVariables false
set_option maxHeartbeats 8000000 in
set_option maxRecDepth 100000 in
theorem back_some (nm : ByteArray) (l : List Rl) (A : Option Addr) (n c : Nat) (Ab : Option Addr) (nb cb : Nat) (b : List UInt8) (w : World) (h : RlOn w A n l) (hnm : nm.size ≤ maxLen) (hn : n ≤ maxLen) (hq : ∀ q ∈ l, q.2.length ≤ maxLen)
    (hr : Reads w w.heap.size 1 Ab nb (bcs b)) (hn2 : nb ≤ 20000) (g1 : largeM nm l = false) (g2 : okM nm l = true) :
    Calls Try.prog 4 #[.agg #[.string nm, .slice A n c], .slice Ab nb cb] w (Tells w (.bool true)) := by
  have HL := hide (fun (wx : World) (hbx : Below w.heap.size w wx) => largeM_any nm l A n c wx (h.on hbx) hq hn hnm)
  have HW := hide (fun wx => awakeW_any wx)
  have HR := hide (fun (wx : World) (hbx : Below w.heap.size w wx) => read_any Ab nb cb b wx ((hr.below hbx).more hbx.size))
  have HX := hide (asksX b)
  have h0 : Below w.heap.size w (w.alloc (.cells #[.string nm, .slice A n c] 24)) := alloc_b _
  have b0 := Blk.new w 24 #[.string nm, .slice A n c]
  obtain ⟨sa, fa⟩ := fineR_of g1
  have HC := hide (fun (wx : World) (hbx : Below w.heap.size w wx) => refCheckM_any nm l A n c wx (h.on hbx) fa (by omega))
  rw [g2] at HC
  have HP : Hid (∀ wx, Below w.heap.size w wx → Calls Try.prog 9 #[.agg #[.string nm, .slice A n c]] wx (MakesB wx (manB nm l))) := hide (fun wx hbx => by
    have := putM_any nm l A n c wx (h.on hbx) fa (by omega)
    unfold putB at this
    rw [if_pos g2] at this
    exact this)
  obtain ⟨p1, p2⟩ := read_put nm l g2
  obtain ⟨p3, p4⟩ := manB_len nm l g2
  have HRM : Hid (∀ wx A1 n1 c1, Reads wx wx.heap.size 1 A1 n1 (bcs (manB nm l)) → Calls Try.prog 7 #[.slice A1 n1 c1] wx fun e w' => ∃ A n c, e = .returned (.tuple #[.agg #[.string nm, .slice A n c], .int .i64 0]) ∧ RlOn w' A n l ∧ Below wx.heap.size wx w') := hide (fun wx A1 n1 c1 h1 => by
    have := read_any A1 n1 c1 (manB nm l) wx h1
    unfold ReadsB at this
    rw [p1, p2] at this
    exact this)
  have HS : Hid (∀ wx A1 n1 c1, RlOn wx A1 n1 l → Below w.heap.size w wx → Calls Try.prog 11 #[.agg #[.string nm, .slice A1 n1 c1], .agg #[.string nm, .slice A n c]] wx fun e w' => e = .returned (.bool true) ∧ Below wx.heap.size wx w') := hide (fun wx A1 n1 c1 h1 hbx => by
    have := refSameM_any nm nm l l A1 A n1 c1 n c wx h1 (h.on hbx) fa fa
    rw [decide_eq_true (rfl : nm = nm), decide_eq_true (rfl : l = l)] at this
    exact this)
  clear p1 p2
  unfold AsksX at HX
  unfold Tells ReadsB MakesB at *
  have hst := str_toList
  have Hr := hide hr
  clear hr hnm hn hq
  rw [g1] at HL
  generalize (readB b).1 = xn at *
  generalize (readB b).2 = xl at *
  generalize errB b = er at *
  clear h
  generalize manB nm l = MB at *
  go_enter Try.func4, Try.ntmps4
  go_upto_region 5 with (first
    | (go_at_call 9
       refine (HP.out _ hb4).mono ?_
       rintro e w5 ⟨A5, n5, c5, rfl, hn5, hb5'⟩
       have hb5 := hb4.trans (hb5'.mono hb4.size)
       have d5 := d4.below hb5' d4.lt)
    | (go_at_call 12
       refine (HC.out _ hb3).mono ?_
       rintro e w4 ⟨rfl, hb4'⟩
       have hb4 := hb3.trans (hb4'.mono hb3.size)
       have d4 := d0.below hb4' d0.lt
       have k2 := (d4.cell 0).trans (show (#[Value.string nm, .slice A n c] : Array Value)[0]? = some (.string nm) from rfl)
       have k3 := (d4.cell 1).trans (show (#[Value.string nm, .slice A n c] : Array Value)[1]? = some (.slice A n c) from rfl))
    | (go_at_call 5
       refine (HL.out _ h0).mono ?_
       rintro e w3 ⟨rfl, hb3'⟩
       have hb3 := h0.trans (hb3'.mono h0.size)
       have d0 := b0.below hb3' b0.lt
       have k0 := (d0.cell 0).trans (show (#[Value.string nm, .slice A n c] : Array Value)[0]? = some (.string nm) from rfl)
       have k1 := (d0.cell 1).trans (show (#[Value.string nm, .slice A n c] : Array Value)[1]? = some (.slice A n c) from rfl)))
  have hl1 : n5 ≤ 8192 := by have := hn5.1; omega
  have hl2 : 0 < n5 := by have := hn5.1; omega
  have hn5r := hide hn5.2.2.2
  clear HL HC HP p3 p4 k0 k1 k2 k3 d0 d4 b0 hn5
  go_upto_region 6 with (first
    | (go_at_call 7
       refine (HRM.out _ _ _ _ hn5r.out).mono ?_
       rintro e w7 ⟨A7, n7, c7, rfl, hx7, hb7'⟩
       have hb7 := hb5.trans (hb7'.mono hb5.size)
       have d7 := d5.below hb7' d5.lt))
  obtain ⟨U, hU⟩ : ∃ U, U = w7.alloc (.cells #[.string nm, .slice A7 n7 c7] 24) := ⟨_, rfl⟩
  have hbU' : Below w7.heap.size w7 U := by rw [hU]; exact alloc_b _
  have hBz : Blk U w7.heap.size 24 #[.string nm, .slice A7 n7 c7] := by rw [hU]; exact Blk.new _ _ _
  have dU := d7.below hbU' d7.lt
  have hbU := hb7.trans (hbU'.mono hb7.size)
  have hxU := hx7.on hbU'
  rw [← hU]
  clear hU hbU' d7 d5 hx7 hn5r HRM
  have hd1 : decide ((8192 : Int) < (n5 : Int)) = false := decide_eq_false (by omega)
  have hd2 : ((n5 : Int) == 0) = false := beq_eq_false_iff_ne.2 (by omega)
  have hd3 : ¬ (8192 : Int) < (n5 : Int) := by omega
  have hd4 : ¬ (n5 : Int) = 0 := by omega
  have j0 := (dU.cell 0).trans (show (#[Value.string nm, .slice A n c] : Array Value)[0]? = some (.string nm) from rfl)
  have j1 := (dU.cell 1).trans (show (#[Value.string nm, .slice A n c] : Array Value)[1]? = some (.slice A n c) from rfl)
  have j2 := (hBz.cell 0).trans (show (#[Value.string nm, .slice A7 n7 c7] : Array Value)[0]? = some (.string nm) from rfl)
  have j3 := (hBz.cell 1).trans (show (#[Value.string nm, .slice A7 n7 c7] : Array Value)[1]? = some (.slice A7 n7 c7) from rfl)
  go_upto_region 9 with (first
    | (go_at_call 7
       refine (HR.out _ (hbS)).mono ?_
       rintro e w6 ⟨A6, n6, c6, rfl, hx6, hb6'⟩
       have hb6 := (hbS).trans (hb6'.mono (hbS).size))
    | (go_at_call 11
       refine (HS.out _ _ _ _ hxU hbU).mono ?_
       rintro e w8 ⟨rfl, hb8'⟩
       have hbS := hbU.trans (hb8'.mono hbU.size)))
  clear HR HS j0 j1 j2 j3 dU hBz hxU hl1 hl2 hd1 hd2 hd3 hd4
  obtain ⟨W, hW⟩ : ∃ W, W = w6.alloc (.cells #[.string xn, .slice A6 n6 c6] 24) := ⟨_, rfl⟩
  have hbW' : Below w6.heap.size w6 W := by rw [hW]; exact alloc_b _
  have hBx : Blk W w6.heap.size 24 #[.string xn, .slice A6 n6 c6] := by rw [hW]; exact Blk.new _ _ _
  have hbW := hb6.trans (hbW'.mono hb6.size)
  have hxW := hx6.on hbW'
  rw [← hW]
  have hbWs := hbW.size
  have up := hide (fun (wx : World) (hx : Below W.heap.size W wx) => hbW.trans (hx.mono hbWs))
  have q1 := cell_reg_ ((hBx.cell 0).trans rfl) hBx.lt
  have q2 := cell_reg_ ((hBx.cell 1).trans rfl) hBx.lt
  clear hW hbW' hx6
  by_cases he : er = 0
  · obtain ⟨HPX, HCX⟩ := HX.out he
    have HPX := hide HPX
    have HCX := hide HCX
    subst he
    have hcr := conv_reg (c := cb) ((Hr.out.below hbW).more hbWs)
    refine wp_region_grow [(55, isB w.heap.size b), (62, isC (.bool true)), (66, isC (.bool true))] [55, 62, 66]
      (by kernel_rfl) (by kernel_rfl) rfl (by kernel_rfl) (by kernel_rfl) ⟨isB_stable _ _, isC_stable _, isC_stable _, trivial⟩ ?_
    repeat (first
      | (refine lex_skip rfl ?_; simp only [Act.put, List.setIfInBounds_toArray, List.set_cons_zero, List.set_cons_succ])
      | (refine lex_quiet rfl rfl rfl (fun K hK => ?_); unfold Reg; go_big_quiet_op; refine hK _ ?_; clear hK K)
      | (refine lex_convB rfl rfl rfl rfl rfl rfl ?_; simp only [Act.put, List.setIfInBounds_toArray, List.set_cons_zero, List.set_cons_succ])
      | (refine lex_rel rfl rfl (fun w' hb9 hK => ?_) (fun v w' hb9 hv => ?_)
         · unfold grows
           go_simp
           first
             | (go_at_call 9; exact (HPX.out w' _ _ _ (hxW.on hb9)).mono fun _ _ ⟨A, n, c, he, hn, hb1⟩ => ⟨_, he, hb1, A, n, c, rfl, hn.less (up.out _ hb9).size⟩)
             | (go_at_call 12; exact call_isC (HCX.out w' _ _ _ (hxW.on hb9)))
             | (go_at_call 6; exact call_isC (HW.out w'))
         first
           | (obtain rfl := hv
              simp only [Act.put, List.setIfInBounds_toArray, List.set_cons_zero, List.set_cons_succ])
           | (obtain ⟨A3, n3, c3, rfl, hn3⟩ := hv
              simp only [Act.put, List.setIfInBounds_toArray, List.set_cons_zero, List.set_cons_succ])))
    refine lex_nil (fun w9 hC9 _ => ?_)
    have hb9 := reg_iff.1 hC9
    clear hC9
    have hbw := up.out _ hb9
    clear q1 q2
    go_wp2
    go_ret
    exact ⟨rfl, hbw⟩
  · have he2 : (er != 0) = true := bne_iff_ne.2 he
    refine wp_region_grow [(66, isC (.bool true))] [66]
      (by kernel_rfl) (by kernel_rfl) rfl (by kernel_rfl) (by kernel_rfl) ⟨isC_stable _, trivial⟩ ?_
    repeat (first
      | (refine lex_skip rfl ?_; simp only [Act.put, List.setIfInBounds_toArray, List.set_cons_zero, List.set_cons_succ])
      | (refine lex_quiet rfl rfl rfl (fun K hK => ?_); unfold Reg; go_big_quiet_op; refine hK _ ?_; clear hK K)
      | (refine lex_convB rfl rfl rfl rfl rfl rfl ?_; simp only [Act.put, List.setIfInBounds_toArray, List.set_cons_zero, List.set_cons_succ])
      | (refine lex_rel rfl rfl (fun w' hb9 hK => ?_) (fun v w' hb9 hv => ?_)
         · unfold grows
           go_simp
           first
             | (go_at_call 6; exact call_isC (HW.out w'))
         first
           | (obtain rfl := hv
              simp only [Act.put, List.setIfInBounds_toArray, List.set_cons_zero, List.set_cons_succ])
           | (obtain ⟨A3, n3, c3, rfl, hn3⟩ := hv
              simp only [Act.put, List.setIfInBounds_toArray, List.set_cons_zero, List.set_cons_succ])))
    refine lex_nil (fun w9 hC9 _ => ?_)
    have hb9 := reg_iff.1 hC9
    clear hC9
    have hbw := up.out _ hb9
    clear q1 q2
    go_wp2
    go_ret
    exact ⟨rfl, hbw⟩
end Go.Proofs.Ytkccnidbfdekdaa.Wire
/-
  The walk of WireBack. Condition: the slices read as releases and bytes; lengths as a row bounds them.
-/
namespace Go.Proofs.Ytkccnidbfdekdaa.Wire
open Go Go.RowKit Go.Lib Go.Proofs.Ytkccnidbfdekdaa.Span Go.Proofs.Ytkccnidbfdekdaa.Need Go.Proofs.Ytkccnidbfdekdaa.Mani Go.Proofs.Ytkccnidbfdekdaa.Grow
set_option linter.unusedVariables false
theorem back_walk (nm : ByteArray) (l : List Rl) (A : Option Addr) (n c : Nat) (Ab : Option Addr) (nb cb : Nat) (b : List UInt8) (w : World) (h : RlOn w A n l) (hnm : nm.size ≤ maxLen) (hn : n ≤ maxLen) (hq : ∀ q ∈ l, q.2.length ≤ maxLen)
    (hr : Reads w w.heap.size 1 Ab nb (bcs b)) :
    Calls Try.prog 4 #[.agg #[.string nm, .slice A n c], .slice Ab nb cb] w (Tells w (.bool true)) := by
  by_cases hn2 : 20000 < nb
  · exact back_long nm A n c Ab nb cb w hn2
  · cases g1 : largeM nm l with
    | true => exact back_large nm l A n c Ab nb cb b w h hnm hn hq hr (by omega) g1
    | false =>
      cases g2 : okM nm l with
      | false => exact back_none nm l A n c Ab nb cb b w h hnm hn hq hr (by omega) g1 g2
      | true => exact back_some nm l A n c Ab nb cb b w h hnm hn hq hr (by omega) g1 g2
end Go.Proofs.Ytkccnidbfdekdaa.Wire

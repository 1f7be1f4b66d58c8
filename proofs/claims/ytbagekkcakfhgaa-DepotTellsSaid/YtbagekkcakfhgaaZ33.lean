/-
  Some texts of this claim, one behind the other: DepotTellsW. What each proves, and its condition, stands at its head.
-/
import Derived.Test.YtbagekkcakfhgaaZ30
import Derived.Test.YtbagekkcakfhgaaZ31
import Derived.Test.YtbagekkcakfhgaaZ32
import Derived.Test.YtbagekkcakfhgaaZ15
import Derived.Test.YtbagekkcakfhgaaZ23
import Derived.Test.YtbagekkcakfhgaaZ13
/-
  The walk of DepotTells. Condition: the slice reads as entries; lengths as a row bounds them.
-/
namespace Go.Proofs.Ytbagekkcakfhgaa.Depot
open Go Go.RowKit Go.Lib Go.Proofs.Ytbagekkcakfhgaa.Span Go.Proofs.Ytbagekkcakfhgaa.Need Go.Proofs.Ytbagekkcakfhgaa.Mani Go.Proofs.Ytbagekkcakfhgaa.Wire Go.Proofs.Ytbagekkcakfhgaa.Grow
open Go.Proofs.Ytbagekkcakfhgaa.Label (runes fitL refFit_any)
set_option linter.unusedVariables false
/-- The relation 'a slice that reads as these texts'. -/
def txR (L : List ByteArray) : Rel := fun w v => ∃ A n c, v = .slice A n c ∧ TxOn w A n L
theorem txR_stable (L : List ByteArray) : ∀ w w' v, Below w.heap.size w w' → txR L w v → txR L w' v := fun _ _ _ hb ⟨A, n, c, hv, h⟩ => ⟨A, n, c, hv, h.on hb⟩
theorem slice_dd (A : Option Addr) (n c : Nat) : Value.slice A n c ≠ undef := by intro h; cases h
theorem call_newB {f : FuncId} {args : Array Value} {w' : World} {B : Nat} {L : List UInt8} (hB : B ≤ w'.heap.size) (h : Calls Try.prog f args w' (MakesB w' L)) :
    Calls Try.prog f args w' fun e w'' => ∃ v, e = .returned v ∧ Below w'.heap.size w' w'' ∧ isB B L w'' v :=
  h.mono fun _ _ ⟨A, n, c, he, hn, hb⟩ => ⟨_, he, hb, A, n, c, rfl, hn.less hB⟩
set_option maxHeartbeats 4000000 in
set_option maxRecDepth 100000 in
theorem tells_la (l : List En) (A : Option Addr) (n c : Nat) (nm : ByteArray) (w : World) (h : EnOn w A n l) (hn : n ≤ 9223372036854775807)
    (g1 : largeE l = true) :
    Calls Try.prog 3 #[.slice A n c, .string nm] w fun e w' => e = .returned (.bool true) ∧ Below w.heap.size w w' := by
  have HL : Hid (∀ wx, Below w.heap.size w wx → Calls Try.prog 5 #[.slice A n c] wx fun e w' => e = .returned (.bool true) ∧ Below wx.heap.size wx w') := hide (fun wx hbx => by
    have := largeE_any l A n c wx (h.on hbx) hn; rw [g1] at this
    first | (unfold Tells at this; exact this) | exact this)
  have HW := hide (fun wx => awakeD_any wx)
  unfold Tells at HW
  clear h hn
  have hbw : Below w.heap.size w w := Below.refl _ _
  go_enter Try.func3, Try.ntmps3
  go_wp2_with (first
    | (go_at_call 6
       refine (HW.out _).mono ?_
       rintro e wn ⟨rfl, hbx⟩
       have hbw := hbw.trans (hbx.mono hbw.size))
    | (go_at_call 5
       refine (HL.out _ hbw).mono ?_
       rintro e wn ⟨rfl, hbx⟩
       have hbw := hbw.trans (hbx.mono hbw.size)))
  go_ret
  exact ⟨rfl, hbw⟩
set_option maxHeartbeats 4000000 in
set_option maxRecDepth 100000 in
theorem tells_nm (l : List En) (A : Option Addr) (n c : Nat) (nm : ByteArray) (w : World) (h : EnOn w A n l) (hn : n ≤ 9223372036854775807)
    (g1 : largeE l = false) (g2 : 200 < nm.size) :
    Calls Try.prog 3 #[.slice A n c, .string nm] w fun e w' => e = .returned (.bool true) ∧ Below w.heap.size w w' := by
  have HL : Hid (∀ wx, Below w.heap.size w wx → Calls Try.prog 5 #[.slice A n c] wx fun e w' => e = .returned (.bool false) ∧ Below wx.heap.size wx w') := hide (fun wx hbx => by
    have := largeE_any l A n c wx (h.on hbx) hn; rw [g1] at this
    first | (unfold Tells at this; exact this) | exact this)
  have HW := hide (fun wx => awakeD_any wx)
  unfold Tells at HW
  have g2z : (200 : Int) < (nm.size : Int) := by omega
  clear h hn
  have hbw : Below w.heap.size w w := Below.refl _ _
  go_enter Try.func3, Try.ntmps3
  go_wp2_with (first
    | (go_at_call 6
       refine (HW.out _).mono ?_
       rintro e wn ⟨rfl, hbx⟩
       have hbw := hbw.trans (hbx.mono hbw.size))
    | (go_at_call 5
       refine (HL.out _ hbw).mono ?_
       rintro e wn ⟨rfl, hbx⟩
       have hbw := hbw.trans (hbx.mono hbw.size)))
  go_ret
  exact ⟨rfl, hbw⟩
set_option maxHeartbeats 4000000 in
set_option maxRecDepth 100000 in
theorem tells_ch (l : List En) (A : Option Addr) (n c : Nat) (nm : ByteArray) (w : World) (h : EnOn w A n l) (hn : n ≤ 9223372036854775807)
    (g1 : largeE l = false) (g2 : ¬ 200 < nm.size) (g3 : okE l = false) :
    Calls Try.prog 3 #[.slice A n c, .string nm] w fun e w' => e = .returned (.bool true) ∧ Below w.heap.size w w' := by
  have hs := fineE_of g1
  have hlen := h.len
  have hn30 : n ≤ 30 := by omega
  have g2z : ¬ (200 : Int) < (nm.size : Int) := by omega
  have HL : Hid (∀ wx, Below w.heap.size w wx → Calls Try.prog 5 #[.slice A n c] wx fun e w' => e = .returned (.bool false) ∧ Below wx.heap.size wx w') := hide (fun wx hbx => by
    have := largeE_any l A n c wx (h.on hbx) hn; rw [g1] at this
    first | (unfold Tells at this; exact this) | exact this)
  have HC : Hid (∀ wx, Below w.heap.size w wx → Calls Try.prog 7 #[.slice A n c] wx fun e w' => e = .returned (.bool false) ∧ Below wx.heap.size wx w') := hide (fun wx hbx => by
    have := checkD_any l A n c wx (h.on hbx) (fun q hq => by have := (hs.2 q hq).1; omega); rw [g3] at this
    first | (unfold Tells at this; exact this) | exact this)
  have HR : Hid (∀ wx, Below w.heap.size w wx → Calls Try.prog 8 #[.slice A n c] wx fun e w' => e = .returned (.bool false) ∧ Below wx.heap.size wx w') := hide (fun wx hbx => by
    have := refCheckD_any l A n c wx (h.on hbx) (fun q hq => by have := (hs.2 q hq).1; omega) (by omega); rw [g3] at this
    first | (unfold Tells at this; exact this) | exact this)
  have HW := hide (fun wx => awakeD_any wx)
  unfold Tells at HW
  clear h hn hs hlen hn30
  have hbw : Below w.heap.size w w := Below.refl _ _
  go_enter Try.func3, Try.ntmps3
  go_wp2_with (first
    | (go_at_call 6
       refine (HW.out _).mono ?_
       rintro e wn ⟨rfl, hbx⟩
       have hbw := hbw.trans (hbx.mono hbw.size))
    | (go_at_call 8
       refine (HR.out _ hbw).mono ?_
       rintro e wn ⟨rfl, hbx⟩
       have hbw := hbw.trans (hbx.mono hbw.size))
    | (go_at_call 7
       refine (HC.out _ hbw).mono ?_
       rintro e wn ⟨rfl, hbx⟩
       have hbw := hbw.trans (hbx.mono hbw.size))
    | (go_at_call 5
       refine (HL.out _ hbw).mono ?_
       rintro e wn ⟨rfl, hbx⟩
       have hbw := hbw.trans (hbx.mono hbw.size)))
  go_ret
  exact ⟨rfl, hbw⟩
set_option maxHeartbeats 4000000 in
set_option maxRecDepth 100000 in
theorem tells_fi (l : List En) (A : Option Addr) (n c : Nat) (nm : ByteArray) (w : World) (h : EnOn w A n l) (hn : n ≤ 9223372036854775807)
    (g1 : largeE l = false) (g2 : ¬ 200 < nm.size) (g3 : okE l = true) (g4 : fitL (runes nm 0) = false) :
    Calls Try.prog 3 #[.slice A n c, .string nm] w fun e w' => e = .returned (.bool true) ∧ Below w.heap.size w w' := by
  have hs := fineE_of g1
  have hlen := h.len
  have hn30 : n ≤ 30 := by omega
  have g2z : ¬ (200 : Int) < (nm.size : Int) := by omega
  have HL : Hid (∀ wx, Below w.heap.size w wx → Calls Try.prog 5 #[.slice A n c] wx fun e w' => e = .returned (.bool false) ∧ Below wx.heap.size wx w') := hide (fun wx hbx => by
    have := largeE_any l A n c wx (h.on hbx) hn; rw [g1] at this
    first | (unfold Tells at this; exact this) | exact this)
  have HC : Hid (∀ wx, Below w.heap.size w wx → Calls Try.prog 7 #[.slice A n c] wx fun e w' => e = .returned (.bool true) ∧ Below wx.heap.size wx w') := hide (fun wx hbx => by
    have := checkD_any l A n c wx (h.on hbx) (fun q hq => by have := (hs.2 q hq).1; omega); rw [g3] at this
    first | (unfold Tells at this; exact this) | exact this)
  have HR : Hid (∀ wx, Below w.heap.size w wx → Calls Try.prog 8 #[.slice A n c] wx fun e w' => e = .returned (.bool true) ∧ Below wx.heap.size wx w') := hide (fun wx hbx => by
    have := refCheckD_any l A n c wx (h.on hbx) (fun q hq => by have := (hs.2 q hq).1; omega) (by omega); rw [g3] at this
    first | (unfold Tells at this; exact this) | exact this)
  have HF : Hid (∀ wx, Below w.heap.size w wx → Calls Try.prog 9 #[.string nm] wx fun e w' => e = .returned (.bool false) ∧ Below wx.heap.size wx w') := hide (fun wx hbx => by
    have := refFit_any nm wx (by omega); rw [g4] at this
    first | (unfold Tells at this; exact this) | exact this)
  have HW := hide (fun wx => awakeD_any wx)
  unfold Tells at HW
  clear h hn hs hlen hn30
  have hbw : Below w.heap.size w w := Below.refl _ _
  go_enter Try.func3, Try.ntmps3
  go_wp2_with (first
    | (go_at_call 6
       refine (HW.out _).mono ?_
       rintro e wn ⟨rfl, hbx⟩
       have hbw := hbw.trans (hbx.mono hbw.size))
    | (go_at_call 9
       refine (HF.out _ hbw).mono ?_
       rintro e wn ⟨rfl, hbx⟩
       have hbw := hbw.trans (hbx.mono hbw.size))
    | (go_at_call 8
       refine (HR.out _ hbw).mono ?_
       rintro e wn ⟨rfl, hbx⟩
       have hbw := hbw.trans (hbx.mono hbw.size))
    | (go_at_call 7
       refine (HC.out _ hbw).mono ?_
       rintro e wn ⟨rfl, hbx⟩
       have hbw := hbw.trans (hbx.mono hbw.size))
    | (go_at_call 5
       refine (HL.out _ hbw).mono ?_
       rintro e wn ⟨rfl, hbx⟩
       have hbw := hbw.trans (hbx.mono hbw.size)))
  go_ret
  exact ⟨rfl, hbw⟩
set_option maxHeartbeats 4000000 in
set_option maxRecDepth 100000 in
theorem tells_main (l : List En) (A : Option Addr) (n c : Nat) (nm : ByteArray) (w : World) (h : EnOn w A n l) (hn : n ≤ 9223372036854775807)
    (g1 : largeE l = false) (g2 : ¬ 200 < nm.size) (g3 : okE l = true) (g4 : fitL (runes nm 0) = true) :
    Calls Try.prog 3 #[.slice A n c, .string nm] w fun e w' => e = .returned (.bool true) ∧ Below w.heap.size w w' := by
  have hs := fineE_of g1
  have hlen := h.len
  have hn30 : n ≤ 30 := by omega
  have g2z : ¬ (200 : Int) < (nm.size : Int) := by omega
  obtain ⟨hl24, hris, hok⟩ := okE_parts g3
  have h8 : ∀ q ∈ l, q.2.length ≤ 8192 := fun q hq => (hok q hq).2
  have hfine := relE_fine nm (bodyE l nm)
  have HL : Hid (∀ wx, Below w.heap.size w wx → Calls Try.prog 5 #[.slice A n c] wx fun e w' => e = .returned (.bool false) ∧ Below wx.heap.size wx w') := hide (fun wx hbx => by
    have := largeE_any l A n c wx (h.on hbx) hn; rw [g1] at this
    first | (unfold Tells at this; exact this) | exact this)
  have HC : Hid (∀ wx, Below w.heap.size w wx → Calls Try.prog 7 #[.slice A n c] wx fun e w' => e = .returned (.bool true) ∧ Below wx.heap.size wx w') := hide (fun wx hbx => by
    have := checkD_any l A n c wx (h.on hbx) (fun q hq => by have := (hs.2 q hq).1; omega); rw [g3] at this
    first | (unfold Tells at this; exact this) | exact this)
  have HR : Hid (∀ wx, Below w.heap.size w wx → Calls Try.prog 8 #[.slice A n c] wx fun e w' => e = .returned (.bool true) ∧ Below wx.heap.size wx w') := hide (fun wx hbx => by
    have := refCheckD_any l A n c wx (h.on hbx) (fun q hq => by have := (hs.2 q hq).1; omega) (by omega); rw [g3] at this
    first | (unfold Tells at this; exact this) | exact this)
  have HF : Hid (∀ wx, Below w.heap.size w wx → Calls Try.prog 9 #[.string nm] wx fun e w' => e = .returned (.bool true) ∧ Below wx.heap.size wx w') := hide (fun wx hbx => by
    have := refFit_any nm wx (by omega); rw [g4] at this
    first | (unfold Tells at this; exact this) | exact this)
  have HW := hide (fun wx => awakeD_any wx)
  unfold Tells at HW
  have HM := hide (fun (wx : World) (hbx : Below w.heap.size w wx) => man_any nm l A n c wx (h.on hbx) hris h8 (by omega) (by omega))
  have HN := hide (fun (wx : World) (hbx : Below w.heap.size w wx) => refMan_any nm l A n c wx (h.on hbx) (by omega) (by omega))
  unfold ManR at HM HN
  have HB := hide (fun (wx : World) (hbx : Below w.heap.size w wx) => body_any nm l A n c wx (h.on hbx) hris h8 (by omega) (by omega))
  have HB2 : Hid (∀ wx, Below w.heap.size w wx → Calls Try.prog 13 #[.slice A n c, .string nm] wx fun e w' => e = .returned (.string (str (bodyE l nm))) ∧ Below wx.heap.size wx w') := hide (fun wx hbx => by
    have := refBody_any nm l A n c wx (h.on hbx) (by omega) (by omega)
    first | (unfold Tells at this; exact this) | exact this)
  have HK := hide (fun (wx : World) (hbx : Below w.heap.size w wx) => broken_any l A n c wx (h.on hbx) hris (fun q hq => ⟨by have := (hs.2 q hq).1; omega, h8 q hq⟩) (by omega))
  have HK2 := hide (fun (wx : World) (hbx : Below w.heap.size w wx) => refBroken_any l A n c wx (h.on hbx) (fun q hq => by have := (hs.2 q hq).1; omega) (by omega))
  unfold MakesT at HK HK2
  have hbl := brokenE_len l l
  have HS : Hid (∀ wx A3 n3 c3 A4 n4 c4, RlOn wx A3 n3 (relE nm (bodyE l nm)) → RlOn wx A4 n4 (relE nm (bodyE l nm)) → Calls Try.prog 14 #[.agg #[.string nm, .slice A3 n3 c3], .agg #[.string nm, .slice A4 n4 c4]] wx fun e w' => e = .returned (.bool true) ∧ Below wx.heap.size wx w') := hide (fun wx A3 n3 c3 A4 n4 c4 h3 h4 => by
    have := refSameM_any nm nm _ _ A3 A4 n3 c3 n4 c4 wx h3 h4 hfine hfine
    rw [decide_eq_true rfl, decide_eq_true rfl] at this
    unfold Tells at this; exact this)
  have HN2 : Hid (∀ wx A3 n3 c3 A4 n4 c4, TxOn wx A3 n3 (brokenE l l) → TxOn wx A4 n4 (brokenE l l) → Calls Try.prog 15 #[.slice A3 n3 c3, .slice A4 n4 c4] wx fun e w' => e = .returned (.bool true) ∧ Below wx.heap.size wx w') := hide (fun wx A3 n3 c3 A4 n4 c4 h3 h4 => by
    have := names2_yes _ A3 A4 n3 c3 n4 c4 wx h3 h4 (by have := h3.len; omega)
    unfold Tells at this; exact this)
  clear h hn hs hlen hn30 hl24 hris hok h8 hfine hbl g1 g2 g3 g4
  generalize relE nm (bodyE l nm) = y at *
  generalize goodE nm (bodyE l nm) = q at *
  generalize bodyE l nm = b at *
  generalize brokenE l l = U at *
  have e1 : (q == q) = true := beq_self_eq_true q
  have e2 : ((str b).toList == (str b).toList) = true := beq_self_eq_true _
  have hbw : Below w.heap.size w w := Below.refl _ _
  go_enter Try.func3, Try.ntmps3
  go_upto_region 9 with (first
    | (go_at_call 11
       refine (HN.out _ hbA).mono ?_
       rintro e w4 ⟨A6, n6, c6, B6, rs6, rfl, h6, hbx⟩
       have d5 := bA.below hbx bA.lt
       have h5 := h5A.on hbx
       have hbw4 := hbA.trans (hbx.mono hbA.size))
    | (go_at_call 10
       refine (HM.out _ hbw).mono ?_
       rintro e w3 ⟨A5, n5, c5, B5, rs5, rfl, h5, hbx⟩
       have hbw3 := hbw.trans (hbx.mono hbw.size)
       have hbA : Below w.heap.size w (w3.alloc (.cells #[.string nm, .slice A5 n5 c5] 28)) := hbw3.alloc hbw3.size _
       have bA := Blk.new w3 28 #[.string nm, .slice A5 n5 c5]
       have h5A : RlOn (w3.alloc (.cells #[.string nm, .slice A5 n5 c5] 28)) A5 n5 y := by
         obtain ⟨Ax, cx, ex, _, hx⟩ := h5.told
         injection ex with ex1 ex2 ex3
         subst ex1
         exact hx.on (alloc_b _))
    | (go_at_call 9
       refine (HF.out _ hbw).mono ?_
       rintro e wn ⟨rfl, hbx⟩
       have hbw := hbw.trans (hbx.mono hbw.size))
    | (go_at_call 8
       refine (HR.out _ hbw).mono ?_
       rintro e wn ⟨rfl, hbx⟩
       have hbw := hbw.trans (hbx.mono hbw.size))
    | (go_at_call 7
       refine (HC.out _ hbw).mono ?_
       rintro e wn ⟨rfl, hbx⟩
       have hbw := hbw.trans (hbx.mono hbw.size))
    | (go_at_call 5
       refine (HL.out _ hbw).mono ?_
       rintro e wn ⟨rfl, hbx⟩
       have hbw := hbw.trans (hbx.mono hbw.size)))
  obtain ⟨W5, hW5⟩ : ∃ W5, W5 = w4.alloc (.cells #[.string nm, .slice A6 n6 c6] 28) := ⟨_, rfl⟩
  have f7 : Blk W5 w4.heap.size 28 #[.string nm, .slice A6 n6 c6] := by rw [hW5]; exact Blk.new _ _ _
  have f5 : Blk W5 w3.heap.size 28 #[.string nm, .slice A5 n5 c5] := by rw [hW5]; exact d5.alloc _
  have h5' : RlOn W5 A5 n5 y := by rw [hW5]; exact h5.on (alloc_b _)
  have h6' : RlOn W5 A6 n6 y := by
    obtain ⟨Ax, cx, ex, _, hx⟩ := h6.told
    injection ex with ex1 ex2 ex3
    subst ex1
    rw [hW5]
    exact hx.on (alloc_b _)
  have hb5 : Below w.heap.size w W5 := by rw [hW5]; exact hbw4.alloc hbw4.size _
  have hbs5 := hb5.size
  rw [← hW5]
  clear hW5 d5 bA h5 h6 h5A hbw4 hbA HM HN HL HC HR HF
  have q1 := cell_reg_ ((f5.cell 0).trans rfl) f5.lt
  have q2 := cell_reg_ ((f5.cell 1).trans rfl) f5.lt
  have q3 := cell_reg_ ((f7.cell 0).trans rfl) f7.lt
  have q4 := cell_reg_ ((f7.cell 1).trans rfl) f7.lt
  have up := hide (fun (wx : World) (hx : Below W5.heap.size W5 wx) => hb5.trans (hx.mono hbs5))
  refine wp_region_grow [(45, isB w.heap.size b), (49, isC (.string (str b))), (54, isC (.bool true)), (63, txR U), (65, txR U), (66, isC (.bool true)), (69, isC (.bool true))] [45, 49, 54, 63, 65, 66, 69]
    (by kernel_rfl) (by kernel_rfl) rfl (by kernel_rfl) (by kernel_rfl) ⟨isB_stable _ _, isC_stable _, isC_stable _, txR_stable _, txR_stable _, isC_stable _, isC_stable _, trivial⟩ ?_
  repeat (first
    | (refine lex_skip rfl ?_; simp only [Act.put, List.setIfInBounds_toArray, List.set_cons_zero, List.set_cons_succ])
    | (refine lex_quiet rfl rfl rfl (fun K hK => ?_); unfold Reg; go_big_quiet_op; refine hK _ ?_; clear hK K)
    | (refine lex_convB rfl rfl rfl rfl rfl rfl ?_; simp only [Act.put, List.setIfInBounds_toArray, List.set_cons_zero, List.set_cons_succ])
    | (refine lex_rel rfl rfl (fun w' hb9 hK => ?_) (fun v w' hb9 hv => ?_)
       · unfold grows
         go_simp
         first
           | (go_at_call 12
              exact call_newB (Nat.le_trans hbs5 hb9.size) (HB.out w' (up.out _ hb9)))
           | (go_at_call 13
              exact call_isC (HB2.out w' (up.out _ hb9)))
           | (go_at_call 14
              exact call_isC (HS.out w' _ _ _ _ _ _ (h5'.on hb9) (h6'.on hb9)))
           | (go_at_call 6
              exact call_isC (HW.out w'))
       first
         | (obtain rfl := hv
            simp only [Act.put, List.setIfInBounds_toArray, List.set_cons_zero, List.set_cons_succ])
         | (obtain ⟨A4, n4, c4, rfl, hn4⟩ := hv
            simp only [Act.put, List.setIfInBounds_toArray, List.set_cons_zero, List.set_cons_succ]))
    | (refine lex_rel rfl rfl (fun w' hb9 hK => ?_) (fun v w' hb9 hv => ?_)
       · unfold grows
         go_simp
         go_at_call 16
         refine (HK.out w' (up.out _ hb9)).mono ?_
         rintro e w8 ⟨A8, n8, c8, rfl, h8, hb8⟩
         exact ⟨_, rfl, hb8, A8, n8, c8, rfl, h8⟩
       obtain ⟨Av63, nv63, cv63, rfl, hv63⟩ := hv
       simp only [Act.put, List.setIfInBounds_toArray, List.set_cons_zero, List.set_cons_succ])
    | (refine lex_rel rfl rfl (fun w' hb9 hK => ?_) (fun v w' hb9 hv => ?_)
       · unfold grows
         go_simp
         go_at_call 17
         refine (HK2.out w' (up.out _ hb9)).mono ?_
         rintro e w8 ⟨A8, n8, c8, rfl, h8, hb8⟩
         exact ⟨_, rfl, hb8, A8, n8, c8, rfl, h8⟩
       obtain ⟨Av65, nv65, cv65, rfl, hv65⟩ := hv
       simp only [Act.put, List.setIfInBounds_toArray, List.set_cons_zero, List.set_cons_succ])
    | (refine lex_rel rfl rfl (fun w' hb9 hK => ?_) (fun v w' hb9 hv => ?_)
       · obtain ⟨B1, m1, d1, j1, hB1⟩ := hK.at_ 63 rfl rfl (slice_dd _ _ _)
         obtain ⟨B2, m2, d2, j2, hB2⟩ := hK.at_ 65 rfl rfl (slice_dd _ _ _)
         have j1' : Value.slice Av63 nv63 cv63 = .slice B1 m1 d1 := j1
         have j2' : Value.slice Av65 nv65 cv65 = .slice B2 m2 d2 := j2
         injection j1' with x1 x2 x3
         injection j2' with y1 y2 y3
         rw [← x1, ← x2] at hB1
         rw [← y1, ← y2] at hB2
         clear j1 j2 x1 x2 x3 y1 y2 y3 hK
         unfold grows
         go_simp
         go_at_call 15
         exact call_isC (HN2.out w' _ _ _ _ _ _ hB1 hB2)
       obtain rfl := hv
       simp only [Act.put, List.setIfInBounds_toArray, List.set_cons_zero, List.set_cons_succ]))
  refine lex_nil (fun w9 hC9 _ => ?_)
  have hb9 := reg_iff.1 hC9
  go_wp2
  go_ret
  exact ⟨rfl, up.out _ hb9⟩
theorem tells_walk (l : List En) (A : Option Addr) (n c : Nat) (nm : ByteArray) (w : World) (h : EnOn w A n l) (hn : n ≤ 9223372036854775807) :
    Calls Try.prog 3 #[.slice A n c, .string nm] w fun e w' => e = .returned (.bool true) ∧ Below w.heap.size w w' := by
  cases g1 : largeE l with
  | true => exact tells_la l A n c nm w h hn g1
  | false =>
    by_cases g2 : 200 < nm.size
    · exact tells_nm l A n c nm w h hn g1 g2
    · cases g3 : okE l with
      | false => exact tells_ch l A n c nm w h hn g1 g2 g3
      | true =>
        cases g4 : fitL (runes nm 0) with
        | false => exact tells_fi l A n c nm w h hn g1 g2 g3 g4
        | true => exact tells_main l A n c nm w h hn g1 g2 g3 g4
end Go.Proofs.Ytbagekkcakfhgaa.Depot

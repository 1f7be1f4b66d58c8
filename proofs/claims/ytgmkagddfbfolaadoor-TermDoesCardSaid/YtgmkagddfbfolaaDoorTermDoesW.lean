/-
  The walk of TermDoes: what is told of terms is the document's. Condition: the slices read as spans; lengths as a row bounds them; the tables hold what the texts lay in them.
-/
import Derived.Test.YtgmkagddfbfolaaDoorTermAwake
namespace Go.Proofs.YtgmkagddfbfolaaDoor.Term
open Go Go.RowKit Go.Lib Go.Proofs.YtgmkagddfbfolaaDoor.Span Go.Proofs.YtgmkagddfbfolaaDoor.Need Go.Proofs.YtgmkagddfbfolaaDoor.Grow
open Go.Proofs.YtgmkagddfbfolaaDoor.Label (runes fitL)
open Go.Proofs.YtgmkagddfbfolaaDoor.Ver (Tabs)
set_option linter.unusedVariables false
set_option maxHeartbeats 8000000 in
set_option maxRecDepth 100000 in
theorem does_la (a b : Tm) (p : Int) (A A' : Option Addr) (n c n' c' : Nat) (w : World) (h : SpOn w A n a.set) (h' : SpOn w A' n' b.set)
    (hn : n ≤ 9223372036854775807) (hn' : n' ≤ 9223372036854775807) (ha : a.name.size ≤ 9223372036854775807) (hb : b.name.size ≤ 9223372036854775807) (hT : Tabs w)
    (g1 : largeT a = true) :
    Calls Tryd.prog 3 #[.agg #[.string a.name, .slice A n c, .bool a.none], .agg #[.string b.name, .slice A' n' c', .bool b.none], .int .i64 p] w fun e w' => e = .returned (.bool true) ∧ Below w.heap.size w w' := by
  have HLA : Hid (∀ wx, Below w.heap.size w wx → Calls Tryd.prog 5 #[.agg #[.string a.name, .slice A n c, .bool a.none]] wx fun e w' => e = .returned (.bool true) ∧ Below wx.heap.size wx w') := hide (fun wx hbx => by
    have := largeT_any a.name a.set a.none A n c wx (h.on hbx) hn ha; rw [show largeT ⟨a.name, a.set, a.none⟩ = true from g1] at this
    first | (unfold Tells at this; exact this) | exact this)
  have HW : Hid (∀ wx, Below w.heap.size w wx → Calls Tryd.prog 6 #[] wx fun e w' => e = .returned (.bool true) ∧ Below wx.heap.size wx w') := hide (fun wx hbx => by
    have := awakeT_any wx (hT.below hbx)
    first | (unfold Tells at this; exact this) | exact this)
  obtain ⟨W, hW⟩ : ∃ W, W = (w.alloc (.cells #[.string a.name, .slice A n c, .bool a.none] 24)).alloc (.cells #[.string b.name, .slice A' n' c', .bool b.none] 24) := ⟨_, rfl⟩
  have hbw : Below w.heap.size w W := by rw [hW]; exact ((Below.refl _ _).alloc (Nat.le_refl _) _).alloc (by simp) _
  have ba : Blk W w.heap.size 24 #[.string a.name, .slice A n c, .bool a.none] := by rw [hW]; exact (Blk.new w _ _).alloc _
  have bb : Blk W (w.heap.size + 1) 24 #[.string b.name, .slice A' n' c', .bool b.none] := by
    rw [hW]
    have := Blk.new (w.alloc (.cells #[.string a.name, .slice A n c, .bool a.none] 24)) 24 #[.string b.name, .slice A' n' c', .bool b.none]
    rwa [World.size_alloc] at this
  have ka0 := ba.cell 0
  have ka1 := ba.cell 1
  have ka2 := ba.cell 2
  have kb0 := bb.cell 0
  have kb1 := bb.cell 1
  have kb2 := bb.cell 2
  clear h h' hn hn' ha hb hT g1
  go_enter Tryd.func3, Tryd.ntmps3
  go_upto_region 1 with fail
  try rw [← hW]
  clear hW
  go_wp2_with (first
    | (go_at_call 6
       refine (HW.out _ hbw).mono ?_
       rintro e wn ⟨rfl, hbx⟩
       have ba := ba.below hbx ba.lt
       have bb := bb.below hbx bb.lt
       have ka0 := ba.cell 0
       have ka1 := ba.cell 1
       have ka2 := ba.cell 2
       have kb0 := bb.cell 0
       have kb1 := bb.cell 1
       have kb2 := bb.cell 2
       have hbw := hbw.trans (hbx.mono hbw.size))
    | (go_at_call 5
       refine (HLA.out _ hbw).mono ?_
       rintro e wn ⟨rfl, hbx⟩
       have ba := ba.below hbx ba.lt
       have bb := bb.below hbx bb.lt
       have ka0 := ba.cell 0
       have ka1 := ba.cell 1
       have ka2 := ba.cell 2
       have kb0 := bb.cell 0
       have kb1 := bb.cell 1
       have kb2 := bb.cell 2
       have hbw := hbw.trans (hbx.mono hbw.size)
       have hla := True.intro))
  go_ret
  exact ⟨rfl, hbw⟩
set_option maxHeartbeats 8000000 in
set_option maxRecDepth 100000 in
theorem does_lb (a b : Tm) (p : Int) (A A' : Option Addr) (n c n' c' : Nat) (w : World) (h : SpOn w A n a.set) (h' : SpOn w A' n' b.set)
    (hn : n ≤ 9223372036854775807) (hn' : n' ≤ 9223372036854775807) (ha : a.name.size ≤ 9223372036854775807) (hb : b.name.size ≤ 9223372036854775807) (hT : Tabs w)
    (g1 : largeT a = false) (g2 : largeT b = true) :
    Calls Tryd.prog 3 #[.agg #[.string a.name, .slice A n c, .bool a.none], .agg #[.string b.name, .slice A' n' c', .bool b.none], .int .i64 p] w fun e w' => e = .returned (.bool true) ∧ Below w.heap.size w w' := by
  have HLA : Hid (∀ wx, Below w.heap.size w wx → Calls Tryd.prog 5 #[.agg #[.string a.name, .slice A n c, .bool a.none]] wx fun e w' => e = .returned (.bool false) ∧ Below wx.heap.size wx w') := hide (fun wx hbx => by
    have := largeT_any a.name a.set a.none A n c wx (h.on hbx) hn ha; rw [show largeT ⟨a.name, a.set, a.none⟩ = false from g1] at this
    first | (unfold Tells at this; exact this) | exact this)
  have HLB : Hid (∀ wx, Below w.heap.size w wx → Calls Tryd.prog 5 #[.agg #[.string b.name, .slice A' n' c', .bool b.none]] wx fun e w' => e = .returned (.bool true) ∧ Below wx.heap.size wx w') := hide (fun wx hbx => by
    have := largeT_any b.name b.set b.none A' n' c' wx (h'.on hbx) hn' hb; rw [show largeT ⟨b.name, b.set, b.none⟩ = true from g2] at this
    first | (unfold Tells at this; exact this) | exact this)
  have HW : Hid (∀ wx, Below w.heap.size w wx → Calls Tryd.prog 6 #[] wx fun e w' => e = .returned (.bool true) ∧ Below wx.heap.size wx w') := hide (fun wx hbx => by
    have := awakeT_any wx (hT.below hbx)
    first | (unfold Tells at this; exact this) | exact this)
  obtain ⟨W, hW⟩ : ∃ W, W = (w.alloc (.cells #[.string a.name, .slice A n c, .bool a.none] 24)).alloc (.cells #[.string b.name, .slice A' n' c', .bool b.none] 24) := ⟨_, rfl⟩
  have hbw : Below w.heap.size w W := by rw [hW]; exact ((Below.refl _ _).alloc (Nat.le_refl _) _).alloc (by simp) _
  have ba : Blk W w.heap.size 24 #[.string a.name, .slice A n c, .bool a.none] := by rw [hW]; exact (Blk.new w _ _).alloc _
  have bb : Blk W (w.heap.size + 1) 24 #[.string b.name, .slice A' n' c', .bool b.none] := by
    rw [hW]
    have := Blk.new (w.alloc (.cells #[.string a.name, .slice A n c, .bool a.none] 24)) 24 #[.string b.name, .slice A' n' c', .bool b.none]
    rwa [World.size_alloc] at this
  have ka0 := ba.cell 0
  have ka1 := ba.cell 1
  have ka2 := ba.cell 2
  have kb0 := bb.cell 0
  have kb1 := bb.cell 1
  have kb2 := bb.cell 2
  clear h h' hn hn' ha hb hT g1 g2
  go_enter Tryd.func3, Tryd.ntmps3
  go_upto_region 1 with fail
  try rw [← hW]
  clear hW
  go_wp2_with (first
    | (go_at_call 6
       refine (HW.out _ hbw).mono ?_
       rintro e wn ⟨rfl, hbx⟩
       have ba := ba.below hbx ba.lt
       have bb := bb.below hbx bb.lt
       have ka0 := ba.cell 0
       have ka1 := ba.cell 1
       have ka2 := ba.cell 2
       have kb0 := bb.cell 0
       have kb1 := bb.cell 1
       have kb2 := bb.cell 2
       have hbw := hbw.trans (hbx.mono hbw.size))
    | (go_at_call 5
       have hneed := hla
       refine (HLB.out _ hbw).mono ?_
       rintro e wn ⟨rfl, hbx⟩
       have ba := ba.below hbx ba.lt
       have bb := bb.below hbx bb.lt
       have ka0 := ba.cell 0
       have ka1 := ba.cell 1
       have ka2 := ba.cell 2
       have kb0 := bb.cell 0
       have kb1 := bb.cell 1
       have kb2 := bb.cell 2
       have hbw := hbw.trans (hbx.mono hbw.size)
       have hlb := True.intro)
    | (go_at_call 5
       refine (HLA.out _ hbw).mono ?_
       rintro e wn ⟨rfl, hbx⟩
       have ba := ba.below hbx ba.lt
       have bb := bb.below hbx bb.lt
       have ka0 := ba.cell 0
       have ka1 := ba.cell 1
       have ka2 := ba.cell 2
       have kb0 := bb.cell 0
       have kb1 := bb.cell 1
       have kb2 := bb.cell 2
       have hbw := hbw.trans (hbx.mono hbw.size)
       have hla := True.intro))
  go_ret
  exact ⟨rfl, hbw⟩
set_option maxHeartbeats 8000000 in
set_option maxRecDepth 100000 in
theorem does_ca (a b : Tm) (p : Int) (A A' : Option Addr) (n c n' c' : Nat) (w : World) (h : SpOn w A n a.set) (h' : SpOn w A' n' b.set)
    (hn : n ≤ 9223372036854775807) (hn' : n' ≤ 9223372036854775807) (ha : a.name.size ≤ 9223372036854775807) (hb : b.name.size ≤ 9223372036854775807) (hT : Tabs w)
    (g1 : largeT a = false) (g2 : largeT b = false) (g3 : (fitL (runes a.name 0) && isSet (-1) a.set) = false) :
    Calls Tryd.prog 3 #[.agg #[.string a.name, .slice A n c, .bool a.none], .agg #[.string b.name, .slice A' n' c', .bool b.none], .int .i64 p] w fun e w' => e = .returned (.bool true) ∧ Below w.heap.size w w' := by
  obtain ⟨la, na⟩ := small_of g1
  obtain ⟨lb, nb⟩ := small_of g2
  have hn6 : n ≤ 60 := by have := h.len; omega
  have hn6' : n' ≤ 60 := by have := h'.len; omega
  have HLA : Hid (∀ wx, Below w.heap.size w wx → Calls Tryd.prog 5 #[.agg #[.string a.name, .slice A n c, .bool a.none]] wx fun e w' => e = .returned (.bool false) ∧ Below wx.heap.size wx w') := hide (fun wx hbx => by
    have := largeT_any a.name a.set a.none A n c wx (h.on hbx) hn ha; rw [show largeT ⟨a.name, a.set, a.none⟩ = false from g1] at this
    first | (unfold Tells at this; exact this) | exact this)
  have HLB : Hid (∀ wx, Below w.heap.size w wx → Calls Tryd.prog 5 #[.agg #[.string b.name, .slice A' n' c', .bool b.none]] wx fun e w' => e = .returned (.bool false) ∧ Below wx.heap.size wx w') := hide (fun wx hbx => by
    have := largeT_any b.name b.set b.none A' n' c' wx (h'.on hbx) hn' hb; rw [show largeT ⟨b.name, b.set, b.none⟩ = false from g2] at this
    first | (unfold Tells at this; exact this) | exact this)
  have HC : Hid (∀ wx, Below w.heap.size w wx → Calls Tryd.prog 7 #[.agg #[.string a.name, .slice A n c, .bool a.none]] wx fun e w' => e = .returned (.bool (fitL (runes a.name 0) && isSet (-1) a.set)) ∧ Below wx.heap.size wx w') := hide (fun wx hbx => by
    have := checkT_any a.name a.set a.none A n c wx (h.on hbx) (by omega) (by omega)
    first | (unfold Tells at this; exact this) | exact this)
  have HRC : Hid (∀ wx, Below w.heap.size w wx → Calls Tryd.prog 8 #[.agg #[.string a.name, .slice A n c, .bool a.none]] wx fun e w' => e = .returned (.bool (fitL (runes a.name 0) && isSet (-1) a.set)) ∧ Below wx.heap.size wx w') := hide (fun wx hbx => by
    have := refCheckT_any a.name a.set a.none A n c wx (h.on hbx) (by omega) (by omega)
    first | (unfold Tells at this; exact this) | exact this)
  have HRCB : Hid (∀ wx, Below w.heap.size w wx → Calls Tryd.prog 8 #[.agg #[.string b.name, .slice A' n' c', .bool b.none]] wx fun e w' => e = .returned (.bool (fitL (runes b.name 0) && isSet (-1) b.set)) ∧ Below wx.heap.size wx w') := hide (fun wx hbx => by
    have := refCheckT_any b.name b.set b.none A' n' c' wx (h'.on hbx) (by omega) (by omega)
    first | (unfold Tells at this; exact this) | exact this)
  have HE : Hid (∀ wx, Below w.heap.size w wx → Calls Tryd.prog 9 #[.agg #[.string a.name, .slice A n c, .bool a.none], .agg #[.string b.name, .slice A' n' c', .bool b.none]] wx fun e w' => e = .returned (.bool (decide (a.name = b.name) && (a.none == b.none && decide (a.set = b.set)))) ∧ Below wx.heap.size wx w') := hide (fun wx hbx => by
    have := sameT_any a.name b.name a.set b.set a.none b.none A A' n c n' c' wx (h.on hbx) (h'.on hbx) (by omega) (by omega)
    first | (unfold Tells at this; exact this) | exact this)
  have HRE : Hid (∀ wx, Below w.heap.size w wx → Calls Tryd.prog 10 #[.agg #[.string a.name, .slice A n c, .bool a.none], .agg #[.string b.name, .slice A' n' c', .bool b.none]] wx fun e w' => e = .returned (.bool (decide (a.name = b.name) && (a.none == b.none && decide (a.set = b.set)))) ∧ Below wx.heap.size wx w') := hide (fun wx hbx => by
    have := refSameT_any a.name b.name a.set b.set a.none b.none A A' n c n' c' wx (h.on hbx) (h'.on hbx) (by omega) (by omega)
    first | (unfold Tells at this; exact this) | exact this)
  have HS : Hid (∀ wx, Below w.heap.size w wx → Calls Tryd.prog 11 #[.agg #[.string a.name, .slice A n c, .bool a.none]] wx fun e w' => e = .returned (.string (showT a)) ∧ Below wx.heap.size wx w') := hide (fun wx hbx => by
    have := showT_any a.name a.set a.none A n c wx (h.on hbx) (by omega) (by omega) (hT.below hbx)
    first | (unfold Tells at this; exact this) | exact this)
  have HRS : Hid (∀ wx, Below w.heap.size w wx → Calls Tryd.prog 12 #[.agg #[.string a.name, .slice A n c, .bool a.none]] wx fun e w' => e = .returned (.string (showT a)) ∧ Below wx.heap.size wx w') := hide (fun wx hbx => by
    have := refShowT_any a.name a.set a.none A n c wx (h.on hbx) (by omega) (by omega)
    first | (unfold Tells at this; exact this) | exact this)
  have HW : Hid (∀ wx, Below w.heap.size w wx → Calls Tryd.prog 6 #[] wx fun e w' => e = .returned (.bool true) ∧ Below wx.heap.size wx w') := hide (fun wx hbx => by
    have := awakeT_any wx (hT.below hbx)
    first | (unfold Tells at this; exact this) | exact this)
  rw [g3] at HC HRC
  generalize (decide (a.name = b.name) && (a.none == b.none && decide (a.set = b.set))) = q2 at *
  generalize showT a = R at *
  have e2 : (q2 != q2) = false := bne_self_eq_false q2
  have e3 : (R.toList != R.toList) = false := bne_self_eq_false _
  have e4 : (R.toList == R.toList) = true := beq_self_eq_true _
  obtain ⟨W, hW⟩ : ∃ W, W = (w.alloc (.cells #[.string a.name, .slice A n c, .bool a.none] 24)).alloc (.cells #[.string b.name, .slice A' n' c', .bool b.none] 24) := ⟨_, rfl⟩
  have hbw : Below w.heap.size w W := by rw [hW]; exact ((Below.refl _ _).alloc (Nat.le_refl _) _).alloc (by simp) _
  have ba : Blk W w.heap.size 24 #[.string a.name, .slice A n c, .bool a.none] := by rw [hW]; exact (Blk.new w _ _).alloc _
  have bb : Blk W (w.heap.size + 1) 24 #[.string b.name, .slice A' n' c', .bool b.none] := by
    rw [hW]
    have := Blk.new (w.alloc (.cells #[.string a.name, .slice A n c, .bool a.none] 24)) 24 #[.string b.name, .slice A' n' c', .bool b.none]
    rwa [World.size_alloc] at this
  have ka0 := ba.cell 0
  have ka1 := ba.cell 1
  have ka2 := ba.cell 2
  have kb0 := bb.cell 0
  have kb1 := bb.cell 1
  have kb2 := bb.cell 2
  clear h h' hn hn' ha hb hT g1 g2 g3 la na lb nb hn6 hn6'
  go_enter Tryd.func3, Tryd.ntmps3
  go_upto_region 1 with fail
  try rw [← hW]
  clear hW
  go_upto_region 3 with (first
    | (go_at_call 5
       have hneed := hla
       refine (HLB.out _ hbw).mono ?_
       rintro e wn ⟨rfl, hbx⟩
       have ba := ba.below hbx ba.lt
       have bb := bb.below hbx bb.lt
       have ka0 := ba.cell 0
       have ka1 := ba.cell 1
       have ka2 := ba.cell 2
       have kb0 := bb.cell 0
       have kb1 := bb.cell 1
       have kb2 := bb.cell 2
       have hbw := hbw.trans (hbx.mono hbw.size)
       have hlb := True.intro)
    | (go_at_call 5
       refine (HLA.out _ hbw).mono ?_
       rintro e wn ⟨rfl, hbx⟩
       have ba := ba.below hbx ba.lt
       have bb := bb.below hbx bb.lt
       have ka0 := ba.cell 0
       have ka1 := ba.cell 1
       have ka2 := ba.cell 2
       have kb0 := bb.cell 0
       have kb1 := bb.cell 1
       have kb2 := bb.cell 2
       have hbw := hbw.trans (hbx.mono hbw.size)
       have hla := True.intro))
  have qc0 := cell_reg_ ((ba.cell 0).trans (show (#[.string a.name, .slice A n c, .bool a.none] : Array Value)[0]? = some (.string a.name) from rfl)) ba.lt
  have qc1 := cell_reg_ ((ba.cell 1).trans (show (#[.string a.name, .slice A n c, .bool a.none] : Array Value)[1]? = some (.slice A n c) from rfl)) ba.lt
  have qc2 := cell_reg_ ((ba.cell 2).trans (show (#[.string a.name, .slice A n c, .bool a.none] : Array Value)[2]? = some (.bool a.none) from rfl)) ba.lt
  have qc3 := cell_reg_ ((bb.cell 0).trans (show (#[.string b.name, .slice A' n' c', .bool b.none] : Array Value)[0]? = some (.string b.name) from rfl)) bb.lt
  have qc4 := cell_reg_ ((bb.cell 1).trans (show (#[.string b.name, .slice A' n' c', .bool b.none] : Array Value)[1]? = some (.slice A' n' c') from rfl)) bb.lt
  have qc5 := cell_reg_ ((bb.cell 2).trans (show (#[.string b.name, .slice A' n' c', .bool b.none] : Array Value)[2]? = some (.bool b.none) from rfl)) bb.lt
  have hbs := hbw.size
  have up := hide (fun (wx : World) (hx : Below _ _ wx) => hbw.trans (hx.mono hbs))
  refine wp_region_grow [(15, isC (.bool false)), (17, isC (.bool false)), (22, isC (.bool q2)), (25, isC (.bool q2)), (30, isC (.string R)), (32, isC (.string R))] [15, 17, 22, 25, 30, 32]
    (by kernel_rfl) (by kernel_rfl) rfl (by kernel_rfl) (by kernel_rfl) ⟨isC_stable _, isC_stable _, isC_stable _, isC_stable _, isC_stable _, isC_stable _, trivial⟩ ?_
  repeat (first
    | (refine lex_skip rfl ?_; simp only [Act.put, List.setIfInBounds_toArray, List.set_cons_zero, List.set_cons_succ])
    | (refine lex_quiet rfl rfl rfl (fun K hK => ?_); unfold Reg; go_big_quiet_op; refine hK _ ?_; clear hK K))
  refine lex_rel rfl rfl (fun w' hb9 hK => ?_) (fun v w' hb9 hv => ?_)
  · clear hK
    unfold grows
    go_simp
    go_at_call 7
    exact call_isC (HC.out w' (up.out _ hb9))
  obtain rfl := hv
  simp only [Act.put, List.setIfInBounds_toArray, List.set_cons_zero, List.set_cons_succ]
  repeat (first
    | (refine lex_skip rfl ?_; simp only [Act.put, List.setIfInBounds_toArray, List.set_cons_zero, List.set_cons_succ])
    | (refine lex_quiet rfl rfl rfl (fun K hK => ?_); unfold Reg; go_big_quiet_op; refine hK _ ?_; clear hK K))
  refine lex_rel rfl rfl (fun w' hb9 hK => ?_) (fun v w' hb9 hv => ?_)
  · clear hK
    unfold grows
    go_simp
    go_at_call 8
    exact call_isC (HRC.out w' (up.out _ hb9))
  obtain rfl := hv
  simp only [Act.put, List.setIfInBounds_toArray, List.set_cons_zero, List.set_cons_succ]
  repeat (first
    | (refine lex_skip rfl ?_; simp only [Act.put, List.setIfInBounds_toArray, List.set_cons_zero, List.set_cons_succ])
    | (refine lex_quiet rfl rfl rfl (fun K hK => ?_); unfold Reg; go_big_quiet_op; refine hK _ ?_; clear hK K))
  refine lex_rel rfl rfl (fun w' hb9 hK => ?_) (fun v w' hb9 hv => ?_)
  · clear hK
    unfold grows
    go_simp
    go_at_call 9
    exact call_isC (HE.out w' (up.out _ hb9))
  obtain rfl := hv
  simp only [Act.put, List.setIfInBounds_toArray, List.set_cons_zero, List.set_cons_succ]
  repeat (first
    | (refine lex_skip rfl ?_; simp only [Act.put, List.setIfInBounds_toArray, List.set_cons_zero, List.set_cons_succ])
    | (refine lex_quiet rfl rfl rfl (fun K hK => ?_); unfold Reg; go_big_quiet_op; refine hK _ ?_; clear hK K))
  refine lex_rel rfl rfl (fun w' hb9 hK => ?_) (fun v w' hb9 hv => ?_)
  · clear hK
    unfold grows
    go_simp
    go_at_call 10
    exact call_isC (HRE.out w' (up.out _ hb9))
  obtain rfl := hv
  simp only [Act.put, List.setIfInBounds_toArray, List.set_cons_zero, List.set_cons_succ]
  repeat (first
    | (refine lex_skip rfl ?_; simp only [Act.put, List.setIfInBounds_toArray, List.set_cons_zero, List.set_cons_succ])
    | (refine lex_quiet rfl rfl rfl (fun K hK => ?_); unfold Reg; go_big_quiet_op; refine hK _ ?_; clear hK K))
  refine lex_rel rfl rfl (fun w' hb9 hK => ?_) (fun v w' hb9 hv => ?_)
  · clear hK
    unfold grows
    go_simp
    go_at_call 11
    exact call_isC (HS.out w' (up.out _ hb9))
  obtain rfl := hv
  simp only [Act.put, List.setIfInBounds_toArray, List.set_cons_zero, List.set_cons_succ]
  repeat (first
    | (refine lex_skip rfl ?_; simp only [Act.put, List.setIfInBounds_toArray, List.set_cons_zero, List.set_cons_succ])
    | (refine lex_quiet rfl rfl rfl (fun K hK => ?_); unfold Reg; go_big_quiet_op; refine hK _ ?_; clear hK K))
  refine lex_rel rfl rfl (fun w' hb9 hK => ?_) (fun v w' hb9 hv => ?_)
  · clear hK
    unfold grows
    go_simp
    go_at_call 12
    exact call_isC (HRS.out w' (up.out _ hb9))
  obtain rfl := hv
  simp only [Act.put, List.setIfInBounds_toArray, List.set_cons_zero, List.set_cons_succ]
  repeat (first
    | (refine lex_skip rfl ?_; simp only [Act.put, List.setIfInBounds_toArray, List.set_cons_zero, List.set_cons_succ])
    | (refine lex_quiet rfl rfl rfl (fun K hK => ?_); unfold Reg; go_big_quiet_op; refine hK _ ?_; clear hK K))
  refine lex_nil (fun w9 hC9 _ => ?_)
  have hb9 := reg_iff.1 hC9
  have hbw := up.out _ hb9
  have ba := ba.below hb9 ba.lt
  have bb := bb.below hb9 bb.lt
  clear hC9 up hbs hb9 qc0 qc1 qc2 qc3 qc4 qc5
  have ka0 := ba.cell 0
  have ka1 := ba.cell 1
  have ka2 := ba.cell 2
  have kb0 := bb.cell 0
  have kb1 := bb.cell 1
  have kb2 := bb.cell 2
  go_wp2_with (first
    | (go_at_call 6
       refine (HW.out _ hbw).mono ?_
       rintro e wn ⟨rfl, hbx⟩
       have ba := ba.below hbx ba.lt
       have bb := bb.below hbx bb.lt
       have ka0 := ba.cell 0
       have ka1 := ba.cell 1
       have ka2 := ba.cell 2
       have kb0 := bb.cell 0
       have kb1 := bb.cell 1
       have kb2 := bb.cell 2
       have hbw := hbw.trans (hbx.mono hbw.size))
    | (go_at_call 8
       refine (HRC.out _ hbw).mono ?_
       rintro e wn ⟨rfl, hbx⟩
       have ba := ba.below hbx ba.lt
       have bb := bb.below hbx bb.lt
       have ka0 := ba.cell 0
       have ka1 := ba.cell 1
       have ka2 := ba.cell 2
       have kb0 := bb.cell 0
       have kb1 := bb.cell 1
       have kb2 := bb.cell 2
       have hbw := hbw.trans (hbx.mono hbw.size)
       have hca := True.intro))
  go_ret
  exact ⟨rfl, hbw⟩
set_option maxHeartbeats 8000000 in
set_option maxRecDepth 100000 in
theorem does_cb (a b : Tm) (p : Int) (A A' : Option Addr) (n c n' c' : Nat) (w : World) (h : SpOn w A n a.set) (h' : SpOn w A' n' b.set)
    (hn : n ≤ 9223372036854775807) (hn' : n' ≤ 9223372036854775807) (ha : a.name.size ≤ 9223372036854775807) (hb : b.name.size ≤ 9223372036854775807) (hT : Tabs w)
    (g1 : largeT a = false) (g2 : largeT b = false) (g3 : (fitL (runes a.name 0) && isSet (-1) a.set) = true) (g4 : (fitL (runes b.name 0) && isSet (-1) b.set) = false) :
    Calls Tryd.prog 3 #[.agg #[.string a.name, .slice A n c, .bool a.none], .agg #[.string b.name, .slice A' n' c', .bool b.none], .int .i64 p] w fun e w' => e = .returned (.bool true) ∧ Below w.heap.size w w' := by
  obtain ⟨la, na⟩ := small_of g1
  obtain ⟨lb, nb⟩ := small_of g2
  have hn6 : n ≤ 60 := by have := h.len; omega
  have hn6' : n' ≤ 60 := by have := h'.len; omega
  have HLA : Hid (∀ wx, Below w.heap.size w wx → Calls Tryd.prog 5 #[.agg #[.string a.name, .slice A n c, .bool a.none]] wx fun e w' => e = .returned (.bool false) ∧ Below wx.heap.size wx w') := hide (fun wx hbx => by
    have := largeT_any a.name a.set a.none A n c wx (h.on hbx) hn ha; rw [show largeT ⟨a.name, a.set, a.none⟩ = false from g1] at this
    first | (unfold Tells at this; exact this) | exact this)
  have HLB : Hid (∀ wx, Below w.heap.size w wx → Calls Tryd.prog 5 #[.agg #[.string b.name, .slice A' n' c', .bool b.none]] wx fun e w' => e = .returned (.bool false) ∧ Below wx.heap.size wx w') := hide (fun wx hbx => by
    have := largeT_any b.name b.set b.none A' n' c' wx (h'.on hbx) hn' hb; rw [show largeT ⟨b.name, b.set, b.none⟩ = false from g2] at this
    first | (unfold Tells at this; exact this) | exact this)
  have HC : Hid (∀ wx, Below w.heap.size w wx → Calls Tryd.prog 7 #[.agg #[.string a.name, .slice A n c, .bool a.none]] wx fun e w' => e = .returned (.bool (fitL (runes a.name 0) && isSet (-1) a.set)) ∧ Below wx.heap.size wx w') := hide (fun wx hbx => by
    have := checkT_any a.name a.set a.none A n c wx (h.on hbx) (by omega) (by omega)
    first | (unfold Tells at this; exact this) | exact this)
  have HRC : Hid (∀ wx, Below w.heap.size w wx → Calls Tryd.prog 8 #[.agg #[.string a.name, .slice A n c, .bool a.none]] wx fun e w' => e = .returned (.bool (fitL (runes a.name 0) && isSet (-1) a.set)) ∧ Below wx.heap.size wx w') := hide (fun wx hbx => by
    have := refCheckT_any a.name a.set a.none A n c wx (h.on hbx) (by omega) (by omega)
    first | (unfold Tells at this; exact this) | exact this)
  have HRCB : Hid (∀ wx, Below w.heap.size w wx → Calls Tryd.prog 8 #[.agg #[.string b.name, .slice A' n' c', .bool b.none]] wx fun e w' => e = .returned (.bool (fitL (runes b.name 0) && isSet (-1) b.set)) ∧ Below wx.heap.size wx w') := hide (fun wx hbx => by
    have := refCheckT_any b.name b.set b.none A' n' c' wx (h'.on hbx) (by omega) (by omega)
    first | (unfold Tells at this; exact this) | exact this)
  have HE : Hid (∀ wx, Below w.heap.size w wx → Calls Tryd.prog 9 #[.agg #[.string a.name, .slice A n c, .bool a.none], .agg #[.string b.name, .slice A' n' c', .bool b.none]] wx fun e w' => e = .returned (.bool (decide (a.name = b.name) && (a.none == b.none && decide (a.set = b.set)))) ∧ Below wx.heap.size wx w') := hide (fun wx hbx => by
    have := sameT_any a.name b.name a.set b.set a.none b.none A A' n c n' c' wx (h.on hbx) (h'.on hbx) (by omega) (by omega)
    first | (unfold Tells at this; exact this) | exact this)
  have HRE : Hid (∀ wx, Below w.heap.size w wx → Calls Tryd.prog 10 #[.agg #[.string a.name, .slice A n c, .bool a.none], .agg #[.string b.name, .slice A' n' c', .bool b.none]] wx fun e w' => e = .returned (.bool (decide (a.name = b.name) && (a.none == b.none && decide (a.set = b.set)))) ∧ Below wx.heap.size wx w') := hide (fun wx hbx => by
    have := refSameT_any a.name b.name a.set b.set a.none b.none A A' n c n' c' wx (h.on hbx) (h'.on hbx) (by omega) (by omega)
    first | (unfold Tells at this; exact this) | exact this)
  have HS : Hid (∀ wx, Below w.heap.size w wx → Calls Tryd.prog 11 #[.agg #[.string a.name, .slice A n c, .bool a.none]] wx fun e w' => e = .returned (.string (showT a)) ∧ Below wx.heap.size wx w') := hide (fun wx hbx => by
    have := showT_any a.name a.set a.none A n c wx (h.on hbx) (by omega) (by omega) (hT.below hbx)
    first | (unfold Tells at this; exact this) | exact this)
  have HRS : Hid (∀ wx, Below w.heap.size w wx → Calls Tryd.prog 12 #[.agg #[.string a.name, .slice A n c, .bool a.none]] wx fun e w' => e = .returned (.string (showT a)) ∧ Below wx.heap.size wx w') := hide (fun wx hbx => by
    have := refShowT_any a.name a.set a.none A n c wx (h.on hbx) (by omega) (by omega)
    first | (unfold Tells at this; exact this) | exact this)
  have HW : Hid (∀ wx, Below w.heap.size w wx → Calls Tryd.prog 6 #[] wx fun e w' => e = .returned (.bool true) ∧ Below wx.heap.size wx w') := hide (fun wx hbx => by
    have := awakeT_any wx (hT.below hbx)
    first | (unfold Tells at this; exact this) | exact this)
  rw [g3] at HC HRC
  rw [g4] at HRCB
  generalize (decide (a.name = b.name) && (a.none == b.none && decide (a.set = b.set))) = q2 at *
  generalize showT a = R at *
  have e2 : (q2 != q2) = false := bne_self_eq_false q2
  have e3 : (R.toList != R.toList) = false := bne_self_eq_false _
  have e4 : (R.toList == R.toList) = true := beq_self_eq_true _
  obtain ⟨W, hW⟩ : ∃ W, W = (w.alloc (.cells #[.string a.name, .slice A n c, .bool a.none] 24)).alloc (.cells #[.string b.name, .slice A' n' c', .bool b.none] 24) := ⟨_, rfl⟩
  have hbw : Below w.heap.size w W := by rw [hW]; exact ((Below.refl _ _).alloc (Nat.le_refl _) _).alloc (by simp) _
  have ba : Blk W w.heap.size 24 #[.string a.name, .slice A n c, .bool a.none] := by rw [hW]; exact (Blk.new w _ _).alloc _
  have bb : Blk W (w.heap.size + 1) 24 #[.string b.name, .slice A' n' c', .bool b.none] := by
    rw [hW]
    have := Blk.new (w.alloc (.cells #[.string a.name, .slice A n c, .bool a.none] 24)) 24 #[.string b.name, .slice A' n' c', .bool b.none]
    rwa [World.size_alloc] at this
  have ka0 := ba.cell 0
  have ka1 := ba.cell 1
  have ka2 := ba.cell 2
  have kb0 := bb.cell 0
  have kb1 := bb.cell 1
  have kb2 := bb.cell 2
  clear h h' hn hn' ha hb hT g1 g2 g3 g4 la na lb nb hn6 hn6'
  go_enter Tryd.func3, Tryd.ntmps3
  go_upto_region 1 with fail
  try rw [← hW]
  clear hW
  go_upto_region 3 with (first
    | (go_at_call 5
       have hneed := hla
       refine (HLB.out _ hbw).mono ?_
       rintro e wn ⟨rfl, hbx⟩
       have ba := ba.below hbx ba.lt
       have bb := bb.below hbx bb.lt
       have ka0 := ba.cell 0
       have ka1 := ba.cell 1
       have ka2 := ba.cell 2
       have kb0 := bb.cell 0
       have kb1 := bb.cell 1
       have kb2 := bb.cell 2
       have hbw := hbw.trans (hbx.mono hbw.size)
       have hlb := True.intro)
    | (go_at_call 5
       refine (HLA.out _ hbw).mono ?_
       rintro e wn ⟨rfl, hbx⟩
       have ba := ba.below hbx ba.lt
       have bb := bb.below hbx bb.lt
       have ka0 := ba.cell 0
       have ka1 := ba.cell 1
       have ka2 := ba.cell 2
       have kb0 := bb.cell 0
       have kb1 := bb.cell 1
       have kb2 := bb.cell 2
       have hbw := hbw.trans (hbx.mono hbw.size)
       have hla := True.intro))
  have qc0 := cell_reg_ ((ba.cell 0).trans (show (#[.string a.name, .slice A n c, .bool a.none] : Array Value)[0]? = some (.string a.name) from rfl)) ba.lt
  have qc1 := cell_reg_ ((ba.cell 1).trans (show (#[.string a.name, .slice A n c, .bool a.none] : Array Value)[1]? = some (.slice A n c) from rfl)) ba.lt
  have qc2 := cell_reg_ ((ba.cell 2).trans (show (#[.string a.name, .slice A n c, .bool a.none] : Array Value)[2]? = some (.bool a.none) from rfl)) ba.lt
  have qc3 := cell_reg_ ((bb.cell 0).trans (show (#[.string b.name, .slice A' n' c', .bool b.none] : Array Value)[0]? = some (.string b.name) from rfl)) bb.lt
  have qc4 := cell_reg_ ((bb.cell 1).trans (show (#[.string b.name, .slice A' n' c', .bool b.none] : Array Value)[1]? = some (.slice A' n' c') from rfl)) bb.lt
  have qc5 := cell_reg_ ((bb.cell 2).trans (show (#[.string b.name, .slice A' n' c', .bool b.none] : Array Value)[2]? = some (.bool b.none) from rfl)) bb.lt
  have hbs := hbw.size
  have up := hide (fun (wx : World) (hx : Below _ _ wx) => hbw.trans (hx.mono hbs))
  refine wp_region_grow [(15, isC (.bool true)), (17, isC (.bool true)), (22, isC (.bool q2)), (25, isC (.bool q2)), (30, isC (.string R)), (32, isC (.string R))] [15, 17, 22, 25, 30, 32]
    (by kernel_rfl) (by kernel_rfl) rfl (by kernel_rfl) (by kernel_rfl) ⟨isC_stable _, isC_stable _, isC_stable _, isC_stable _, isC_stable _, isC_stable _, trivial⟩ ?_
  repeat (first
    | (refine lex_skip rfl ?_; simp only [Act.put, List.setIfInBounds_toArray, List.set_cons_zero, List.set_cons_succ])
    | (refine lex_quiet rfl rfl rfl (fun K hK => ?_); unfold Reg; go_big_quiet_op; refine hK _ ?_; clear hK K))
  refine lex_rel rfl rfl (fun w' hb9 hK => ?_) (fun v w' hb9 hv => ?_)
  · clear hK
    unfold grows
    go_simp
    go_at_call 7
    exact call_isC (HC.out w' (up.out _ hb9))
  obtain rfl := hv
  simp only [Act.put, List.setIfInBounds_toArray, List.set_cons_zero, List.set_cons_succ]
  repeat (first
    | (refine lex_skip rfl ?_; simp only [Act.put, List.setIfInBounds_toArray, List.set_cons_zero, List.set_cons_succ])
    | (refine lex_quiet rfl rfl rfl (fun K hK => ?_); unfold Reg; go_big_quiet_op; refine hK _ ?_; clear hK K))
  refine lex_rel rfl rfl (fun w' hb9 hK => ?_) (fun v w' hb9 hv => ?_)
  · clear hK
    unfold grows
    go_simp
    go_at_call 8
    exact call_isC (HRC.out w' (up.out _ hb9))
  obtain rfl := hv
  simp only [Act.put, List.setIfInBounds_toArray, List.set_cons_zero, List.set_cons_succ]
  repeat (first
    | (refine lex_skip rfl ?_; simp only [Act.put, List.setIfInBounds_toArray, List.set_cons_zero, List.set_cons_succ])
    | (refine lex_quiet rfl rfl rfl (fun K hK => ?_); unfold Reg; go_big_quiet_op; refine hK _ ?_; clear hK K))
  refine lex_rel rfl rfl (fun w' hb9 hK => ?_) (fun v w' hb9 hv => ?_)
  · clear hK
    unfold grows
    go_simp
    go_at_call 9
    exact call_isC (HE.out w' (up.out _ hb9))
  obtain rfl := hv
  simp only [Act.put, List.setIfInBounds_toArray, List.set_cons_zero, List.set_cons_succ]
  repeat (first
    | (refine lex_skip rfl ?_; simp only [Act.put, List.setIfInBounds_toArray, List.set_cons_zero, List.set_cons_succ])
    | (refine lex_quiet rfl rfl rfl (fun K hK => ?_); unfold Reg; go_big_quiet_op; refine hK _ ?_; clear hK K))
  refine lex_rel rfl rfl (fun w' hb9 hK => ?_) (fun v w' hb9 hv => ?_)
  · clear hK
    unfold grows
    go_simp
    go_at_call 10
    exact call_isC (HRE.out w' (up.out _ hb9))
  obtain rfl := hv
  simp only [Act.put, List.setIfInBounds_toArray, List.set_cons_zero, List.set_cons_succ]
  repeat (first
    | (refine lex_skip rfl ?_; simp only [Act.put, List.setIfInBounds_toArray, List.set_cons_zero, List.set_cons_succ])
    | (refine lex_quiet rfl rfl rfl (fun K hK => ?_); unfold Reg; go_big_quiet_op; refine hK _ ?_; clear hK K))
  refine lex_rel rfl rfl (fun w' hb9 hK => ?_) (fun v w' hb9 hv => ?_)
  · clear hK
    unfold grows
    go_simp
    go_at_call 11
    exact call_isC (HS.out w' (up.out _ hb9))
  obtain rfl := hv
  simp only [Act.put, List.setIfInBounds_toArray, List.set_cons_zero, List.set_cons_succ]
  repeat (first
    | (refine lex_skip rfl ?_; simp only [Act.put, List.setIfInBounds_toArray, List.set_cons_zero, List.set_cons_succ])
    | (refine lex_quiet rfl rfl rfl (fun K hK => ?_); unfold Reg; go_big_quiet_op; refine hK _ ?_; clear hK K))
  refine lex_rel rfl rfl (fun w' hb9 hK => ?_) (fun v w' hb9 hv => ?_)
  · clear hK
    unfold grows
    go_simp
    go_at_call 12
    exact call_isC (HRS.out w' (up.out _ hb9))
  obtain rfl := hv
  simp only [Act.put, List.setIfInBounds_toArray, List.set_cons_zero, List.set_cons_succ]
  repeat (first
    | (refine lex_skip rfl ?_; simp only [Act.put, List.setIfInBounds_toArray, List.set_cons_zero, List.set_cons_succ])
    | (refine lex_quiet rfl rfl rfl (fun K hK => ?_); unfold Reg; go_big_quiet_op; refine hK _ ?_; clear hK K))
  refine lex_nil (fun w9 hC9 _ => ?_)
  have hb9 := reg_iff.1 hC9
  have hbw := up.out _ hb9
  have ba := ba.below hb9 ba.lt
  have bb := bb.below hb9 bb.lt
  clear hC9 up hbs hb9 qc0 qc1 qc2 qc3 qc4 qc5
  have ka0 := ba.cell 0
  have ka1 := ba.cell 1
  have ka2 := ba.cell 2
  have kb0 := bb.cell 0
  have kb1 := bb.cell 1
  have kb2 := bb.cell 2
  go_wp2_with (first
    | (go_at_call 6
       refine (HW.out _ hbw).mono ?_
       rintro e wn ⟨rfl, hbx⟩
       have ba := ba.below hbx ba.lt
       have bb := bb.below hbx bb.lt
       have ka0 := ba.cell 0
       have ka1 := ba.cell 1
       have ka2 := ba.cell 2
       have kb0 := bb.cell 0
       have kb1 := bb.cell 1
       have kb2 := bb.cell 2
       have hbw := hbw.trans (hbx.mono hbw.size))
    | (go_at_call 8
       have hneed := hca
       refine (HRCB.out _ hbw).mono ?_
       rintro e wn ⟨rfl, hbx⟩
       have ba := ba.below hbx ba.lt
       have bb := bb.below hbx bb.lt
       have ka0 := ba.cell 0
       have ka1 := ba.cell 1
       have ka2 := ba.cell 2
       have kb0 := bb.cell 0
       have kb1 := bb.cell 1
       have kb2 := bb.cell 2
       have hbw := hbw.trans (hbx.mono hbw.size))
    | (go_at_call 8
       refine (HRC.out _ hbw).mono ?_
       rintro e wn ⟨rfl, hbx⟩
       have ba := ba.below hbx ba.lt
       have bb := bb.below hbx bb.lt
       have ka0 := ba.cell 0
       have ka1 := ba.cell 1
       have ka2 := ba.cell 2
       have kb0 := bb.cell 0
       have kb1 := bb.cell 1
       have kb2 := bb.cell 2
       have hbw := hbw.trans (hbx.mono hbw.size)
       have hca := True.intro))
  go_ret
  exact ⟨rfl, hbw⟩
set_option maxHeartbeats 8000000 in
set_option maxRecDepth 100000 in
theorem does_main (a b : Tm) (p : Int) (A A' : Option Addr) (n c n' c' : Nat) (w : World) (h : SpOn w A n a.set) (h' : SpOn w A' n' b.set)
    (hn : n ≤ 9223372036854775807) (hn' : n' ≤ 9223372036854775807) (ha : a.name.size ≤ 9223372036854775807) (hb : b.name.size ≤ 9223372036854775807) (hT : Tabs w)
    (g1 : largeT a = false) (g2 : largeT b = false) (g3 : (fitL (runes a.name 0) && isSet (-1) a.set) = true) (g4 : (fitL (runes b.name 0) && isSet (-1) b.set) = true) :
    Calls Tryd.prog 3 #[.agg #[.string a.name, .slice A n c, .bool a.none], .agg #[.string b.name, .slice A' n' c', .bool b.none], .int .i64 p] w fun e w' => e = .returned (.bool true) ∧ Below w.heap.size w w' := by
  obtain ⟨la, na⟩ := small_of g1
  obtain ⟨lb, nb⟩ := small_of g2
  have hn6 : n ≤ 60 := by have := h.len; omega
  have hn6' : n' ≤ 60 := by have := h'.len; omega
  have HLA : Hid (∀ wx, Below w.heap.size w wx → Calls Tryd.prog 5 #[.agg #[.string a.name, .slice A n c, .bool a.none]] wx fun e w' => e = .returned (.bool false) ∧ Below wx.heap.size wx w') := hide (fun wx hbx => by
    have := largeT_any a.name a.set a.none A n c wx (h.on hbx) hn ha; rw [show largeT ⟨a.name, a.set, a.none⟩ = false from g1] at this
    first | (unfold Tells at this; exact this) | exact this)
  have HLB : Hid (∀ wx, Below w.heap.size w wx → Calls Tryd.prog 5 #[.agg #[.string b.name, .slice A' n' c', .bool b.none]] wx fun e w' => e = .returned (.bool false) ∧ Below wx.heap.size wx w') := hide (fun wx hbx => by
    have := largeT_any b.name b.set b.none A' n' c' wx (h'.on hbx) hn' hb; rw [show largeT ⟨b.name, b.set, b.none⟩ = false from g2] at this
    first | (unfold Tells at this; exact this) | exact this)
  have HC : Hid (∀ wx, Below w.heap.size w wx → Calls Tryd.prog 7 #[.agg #[.string a.name, .slice A n c, .bool a.none]] wx fun e w' => e = .returned (.bool (fitL (runes a.name 0) && isSet (-1) a.set)) ∧ Below wx.heap.size wx w') := hide (fun wx hbx => by
    have := checkT_any a.name a.set a.none A n c wx (h.on hbx) (by omega) (by omega)
    first | (unfold Tells at this; exact this) | exact this)
  have HRC : Hid (∀ wx, Below w.heap.size w wx → Calls Tryd.prog 8 #[.agg #[.string a.name, .slice A n c, .bool a.none]] wx fun e w' => e = .returned (.bool (fitL (runes a.name 0) && isSet (-1) a.set)) ∧ Below wx.heap.size wx w') := hide (fun wx hbx => by
    have := refCheckT_any a.name a.set a.none A n c wx (h.on hbx) (by omega) (by omega)
    first | (unfold Tells at this; exact this) | exact this)
  have HRCB : Hid (∀ wx, Below w.heap.size w wx → Calls Tryd.prog 8 #[.agg #[.string b.name, .slice A' n' c', .bool b.none]] wx fun e w' => e = .returned (.bool (fitL (runes b.name 0) && isSet (-1) b.set)) ∧ Below wx.heap.size wx w') := hide (fun wx hbx => by
    have := refCheckT_any b.name b.set b.none A' n' c' wx (h'.on hbx) (by omega) (by omega)
    first | (unfold Tells at this; exact this) | exact this)
  have HE : Hid (∀ wx, Below w.heap.size w wx → Calls Tryd.prog 9 #[.agg #[.string a.name, .slice A n c, .bool a.none], .agg #[.string b.name, .slice A' n' c', .bool b.none]] wx fun e w' => e = .returned (.bool (decide (a.name = b.name) && (a.none == b.none && decide (a.set = b.set)))) ∧ Below wx.heap.size wx w') := hide (fun wx hbx => by
    have := sameT_any a.name b.name a.set b.set a.none b.none A A' n c n' c' wx (h.on hbx) (h'.on hbx) (by omega) (by omega)
    first | (unfold Tells at this; exact this) | exact this)
  have HRE : Hid (∀ wx, Below w.heap.size w wx → Calls Tryd.prog 10 #[.agg #[.string a.name, .slice A n c, .bool a.none], .agg #[.string b.name, .slice A' n' c', .bool b.none]] wx fun e w' => e = .returned (.bool (decide (a.name = b.name) && (a.none == b.none && decide (a.set = b.set)))) ∧ Below wx.heap.size wx w') := hide (fun wx hbx => by
    have := refSameT_any a.name b.name a.set b.set a.none b.none A A' n c n' c' wx (h.on hbx) (h'.on hbx) (by omega) (by omega)
    first | (unfold Tells at this; exact this) | exact this)
  have HS : Hid (∀ wx, Below w.heap.size w wx → Calls Tryd.prog 11 #[.agg #[.string a.name, .slice A n c, .bool a.none]] wx fun e w' => e = .returned (.string (showT a)) ∧ Below wx.heap.size wx w') := hide (fun wx hbx => by
    have := showT_any a.name a.set a.none A n c wx (h.on hbx) (by omega) (by omega) (hT.below hbx)
    first | (unfold Tells at this; exact this) | exact this)
  have HRS : Hid (∀ wx, Below w.heap.size w wx → Calls Tryd.prog 12 #[.agg #[.string a.name, .slice A n c, .bool a.none]] wx fun e w' => e = .returned (.string (showT a)) ∧ Below wx.heap.size wx w') := hide (fun wx hbx => by
    have := refShowT_any a.name a.set a.none A n c wx (h.on hbx) (by omega) (by omega)
    first | (unfold Tells at this; exact this) | exact this)
  have HW : Hid (∀ wx, Below w.heap.size w wx → Calls Tryd.prog 6 #[] wx fun e w' => e = .returned (.bool true) ∧ Below wx.heap.size wx w') := hide (fun wx hbx => by
    have := awakeT_any wx (hT.below hbx)
    first | (unfold Tells at this; exact this) | exact this)
  have sa : isSet (-1) a.set = true := by simp only [Bool.and_eq_true] at g3; exact g3.2
  have sb : isSet (-1) b.set = true := by simp only [Bool.and_eq_true] at g4; exact g4.2
  have nn : (notT a).set.length ≤ 1000000001 := len_le (nf_set _)
  have nm : (meetT a b).set.length ≤ 1000000001 := by
    unfold meetT
    split
    · exact len_le (nf_set _)
    · simp [noT]
  have nj : (joinT a b).set.length ≤ 1000000001 := by
    unfold joinT
    split
    · exact len_le (nf_set _)
    · simp [noT]
  have HF : Hid (∀ wx, Below w.heap.size w wx → Calls Tryd.prog 13 #[.agg #[.string a.name, .slice A n c, .bool a.none]] wx fun e w' => e = .returned (.bool (a.none && decide (a.set = allS))) ∧ Below wx.heap.size wx w') := hide (fun wx hbx => by
    have := fullT_any a.name a.set a.none A n c wx (h.on hbx) (by omega)
    first | (unfold Tells at this; exact this) | exact this)
  have HRF : Hid (∀ wx, Below w.heap.size w wx → Calls Tryd.prog 14 #[.agg #[.string a.name, .slice A n c, .bool a.none]] wx fun e w' => e = .returned (.bool (a.none && decide (a.set = allS))) ∧ Below wx.heap.size wx w') := hide (fun wx hbx => by
    have := refFullT_any a.name a.set a.none A n c wx (h.on hbx) (by omega)
    first | (unfold Tells at this; exact this) | exact this)
  have HM : Hid (∀ wx, Below w.heap.size w wx → Calls Tryd.prog 15 #[.agg #[.string a.name, .slice A n c, .bool a.none]] wx fun e w' => e = .returned (.bool (!a.none && decide (a.set = []))) ∧ Below wx.heap.size wx w') := hide (fun wx hbx => by
    have := emptyT_any a.name a.set a.none A n c wx (h.on hbx)
    first | (unfold Tells at this; exact this) | exact this)
  have HRM : Hid (∀ wx, Below w.heap.size w wx → Calls Tryd.prog 16 #[.agg #[.string a.name, .slice A n c, .bool a.none]] wx fun e w' => e = .returned (.bool (!a.none && decide (a.set = []))) ∧ Below wx.heap.size wx w') := hide (fun wx hbx => by
    have := refEmptyT_any a.name a.set a.none A n c wx (h.on hbx)
    first | (unfold Tells at this; exact this) | exact this)
  have HH : Hid (∀ wx, Below w.heap.size w wx → Calls Tryd.prog 19 #[.agg #[.string a.name, .slice A n c, .bool a.none], .int .i64 p, .bool true] wx fun e w' => e = .returned (.bool (has a.set p)) ∧ Below wx.heap.size wx w') := hide (fun wx hbx => by
    have := hasT_any a.name a.set a.none A n c wx (h.on hbx) p true (by omega) sa; rw [if_pos rfl] at this
    first | (unfold Tells at this; exact this) | exact this)
  have HRH : Hid (∀ wx, Below w.heap.size w wx → Calls Tryd.prog 20 #[.agg #[.string a.name, .slice A n c, .bool a.none], .int .i64 p, .bool true] wx fun e w' => e = .returned (.bool (has a.set p)) ∧ Below wx.heap.size wx w') := hide (fun wx hbx => by
    have := refHasT_any a.name a.set a.none A n c wx (h.on hbx) p true (by omega) sa; rw [if_pos rfl] at this
    first | (unfold Tells at this; exact this) | exact this)
  have HH0 : Hid (∀ wx, Below w.heap.size w wx → Calls Tryd.prog 19 #[.agg #[.string a.name, .slice A n c, .bool a.none], .int .i64 p, .bool false] wx fun e w' => e = .returned (.bool a.none) ∧ Below wx.heap.size wx w') := hide (fun wx hbx => by
    have := hasT_any a.name a.set a.none A n c wx (h.on hbx) p false (by omega) sa; rw [if_neg (by simp)] at this
    first | (unfold Tells at this; exact this) | exact this)
  have HN : Hid (∀ wx, Below w.heap.size w wx → Calls Tryd.prog 17 #[.agg #[.string a.name, .slice A n c, .bool a.none]] wx (Ans wx (notT a))) := hide (fun wx hbx => ans_of (notT_any a.name a.set a.none A n c wx (h.on hbx) (by omega) sa))
  have HRN : Hid (∀ wx, Below w.heap.size w wx → Calls Tryd.prog 18 #[.agg #[.string a.name, .slice A n c, .bool a.none]] wx (Ans wx (notT a))) := hide (fun wx hbx => ans_of (refNotT_any a.name a.set a.none A n c wx (h.on hbx) (by omega)))
  have HT : Hid (∀ wx, Below w.heap.size w wx → Calls Tryd.prog 21 #[.agg #[.string a.name, .slice A n c, .bool a.none], .agg #[.string b.name, .slice A' n' c', .bool b.none]] wx (Ans wx (meetT a b))) := hide (fun wx hbx => ans_of (meetT_any a.name b.name a.set b.set a.none b.none A A' n c n' c' wx (h.on hbx) (h'.on hbx) (by omega) sa sb))
  have HRT : Hid (∀ wx, Below w.heap.size w wx → Calls Tryd.prog 22 #[.agg #[.string a.name, .slice A n c, .bool a.none], .agg #[.string b.name, .slice A' n' c', .bool b.none]] wx (Ans wx (meetT a b))) := hide (fun wx hbx => ans_of (refMeetT_any a.name b.name a.set b.set a.none b.none A A' n c n' c' wx (h.on hbx) (h'.on hbx) (by omega) (by omega)))
  have HJ : Hid (∀ wx, Below w.heap.size w wx → Calls Tryd.prog 23 #[.agg #[.string a.name, .slice A n c, .bool a.none], .agg #[.string b.name, .slice A' n' c', .bool b.none]] wx (Ans wx (joinT a b))) := hide (fun wx hbx => ans_of (joinT_any a.name b.name a.set b.set a.none b.none A A' n c n' c' wx (h.on hbx) (h'.on hbx) (by omega) sa sb))
  have HRJ : Hid (∀ wx, Below w.heap.size w wx → Calls Tryd.prog 24 #[.agg #[.string a.name, .slice A n c, .bool a.none], .agg #[.string b.name, .slice A' n' c', .bool b.none]] wx (Ans wx (joinT a b))) := hide (fun wx hbx => ans_of (refJoinT_any a.name b.name a.set b.set a.none b.none A A' n c n' c' wx (h.on hbx) (h'.on hbx) (by omega) (by omega)))
  have HI : Hid (∀ wx, Below w.heap.size w wx → Calls Tryd.prog 25 #[.agg #[.string a.name, .slice A n c, .bool a.none], .agg #[.string b.name, .slice A' n' c', .bool b.none]] wx fun e w' => e = .returned (.bool (decide (a.name = b.name) && (decide (lessS a.set b.set = []) && (b.none || !a.none)))) ∧ Below wx.heap.size wx w') := hide (fun wx hbx => by
    have := withinT_any a.name b.name a.set b.set a.none b.none A A' n c n' c' wx (h.on hbx) (h'.on hbx) sa sb
    first | (unfold Tells at this; exact this) | exact this)
  have HRI : Hid (∀ wx, Below w.heap.size w wx → Calls Tryd.prog 26 #[.agg #[.string a.name, .slice A n c, .bool a.none], .agg #[.string b.name, .slice A' n' c', .bool b.none]] wx fun e w' => e = .returned (.bool (decide (a.name = b.name) && (decide (lessS a.set b.set = []) && (b.none || !a.none)))) ∧ Below wx.heap.size wx w') := hide (fun wx hbx => by
    have := refWithinT_any a.name b.name a.set b.set a.none b.none A A' n c n' c' wx (h.on hbx) (h'.on hbx) (by omega) (by omega) sa
    first | (unfold Tells at this; exact this) | exact this)
  have HSN : Hid (∀ wx, Below w.heap.size w wx → ∀ (A1 : Option Addr) (n1 c1 : Nat), SpOn wx A1 n1 (notT a).set → ∀ (A2 : Option Addr) (n2 c2 : Nat), SpOn wx A2 n2 (notT a).set → Calls Tryd.prog 10 #[.agg #[.string (notT a).name, .slice A1 n1 c1, .bool (notT a).none], .agg #[.string (notT a).name, .slice A2 n2 c2, .bool (notT a).none]] wx fun e w' => e = .returned (.bool true) ∧ Below wx.heap.size wx w') := hide (fun wx hbx A1 n1 c1 h1 A2 n2 c2 h2 => by
    have := refSameT_any (notT a).name (notT a).name (notT a).set (notT a).set (notT a).none (notT a).none A1 A2 n1 c1 n2 c2 wx h1 h2 (by have := h1.len; omega) (by have := h2.len; omega); rw [same_true] at this
    first | (unfold Tells at this; exact this) | exact this)
  have HSM : Hid (∀ wx, Below w.heap.size w wx → ∀ (A1 : Option Addr) (n1 c1 : Nat), SpOn wx A1 n1 (meetT a b).set → ∀ (A2 : Option Addr) (n2 c2 : Nat), SpOn wx A2 n2 (meetT a b).set → Calls Tryd.prog 10 #[.agg #[.string (meetT a b).name, .slice A1 n1 c1, .bool (meetT a b).none], .agg #[.string (meetT a b).name, .slice A2 n2 c2, .bool (meetT a b).none]] wx fun e w' => e = .returned (.bool true) ∧ Below wx.heap.size wx w') := hide (fun wx hbx A1 n1 c1 h1 A2 n2 c2 h2 => by
    have := refSameT_any (meetT a b).name (meetT a b).name (meetT a b).set (meetT a b).set (meetT a b).none (meetT a b).none A1 A2 n1 c1 n2 c2 wx h1 h2 (by have := h1.len; omega) (by have := h2.len; omega); rw [same_true] at this
    first | (unfold Tells at this; exact this) | exact this)
  have HSJ : Hid (∀ wx, Below w.heap.size w wx → ∀ (A1 : Option Addr) (n1 c1 : Nat), SpOn wx A1 n1 (joinT a b).set → ∀ (A2 : Option Addr) (n2 c2 : Nat), SpOn wx A2 n2 (joinT a b).set → Calls Tryd.prog 10 #[.agg #[.string (joinT a b).name, .slice A1 n1 c1, .bool (joinT a b).none], .agg #[.string (joinT a b).name, .slice A2 n2 c2, .bool (joinT a b).none]] wx fun e w' => e = .returned (.bool true) ∧ Below wx.heap.size wx w') := hide (fun wx hbx A1 n1 c1 h1 A2 n2 c2 h2 => by
    have := refSameT_any (joinT a b).name (joinT a b).name (joinT a b).set (joinT a b).set (joinT a b).none (joinT a b).none A1 A2 n1 c1 n2 c2 wx h1 h2 (by have := h1.len; omega) (by have := h2.len; omega); rw [same_true] at this
    first | (unfold Tells at this; exact this) | exact this)
  rw [g3] at HC HRC
  rw [g4] at HRCB
  generalize (decide (a.name = b.name) && (a.none == b.none && decide (a.set = b.set))) = q2 at *
  generalize showT a = R at *
  have e2 : (q2 != q2) = false := bne_self_eq_false q2
  have e3 : (R.toList != R.toList) = false := bne_self_eq_false _
  have e4 : (R.toList == R.toList) = true := beq_self_eq_true _
  generalize (a.none && decide (a.set = allS)) = q3 at *
  generalize (!a.none && decide (a.set = [])) = q4 at *
  generalize has a.set p = q5 at *
  generalize (decide (a.name = b.name) && (decide (lessS a.set b.set = []) && (b.none || !a.none))) = q6 at *
  have e5 : (q3 != q3) = false := bne_self_eq_false q3
  have e6 : (q4 != q4) = false := bne_self_eq_false q4
  have e7 : (q5 != q5) = false := bne_self_eq_false q5
  have e8 : (a.none != a.none) = false := bne_self_eq_false _
  have e9 : (q6 == q6) = true := beq_self_eq_true q6
  generalize notT a = TN at *
  generalize meetT a b = TM at *
  generalize joinT a b = TJ at *
  obtain ⟨W, hW⟩ : ∃ W, W = (w.alloc (.cells #[.string a.name, .slice A n c, .bool a.none] 24)).alloc (.cells #[.string b.name, .slice A' n' c', .bool b.none] 24) := ⟨_, rfl⟩
  have hbw : Below w.heap.size w W := by rw [hW]; exact ((Below.refl _ _).alloc (Nat.le_refl _) _).alloc (by simp) _
  have ba : Blk W w.heap.size 24 #[.string a.name, .slice A n c, .bool a.none] := by rw [hW]; exact (Blk.new w _ _).alloc _
  have bb : Blk W (w.heap.size + 1) 24 #[.string b.name, .slice A' n' c', .bool b.none] := by
    rw [hW]
    have := Blk.new (w.alloc (.cells #[.string a.name, .slice A n c, .bool a.none] 24)) 24 #[.string b.name, .slice A' n' c', .bool b.none]
    rwa [World.size_alloc] at this
  have ka0 := ba.cell 0
  have ka1 := ba.cell 1
  have ka2 := ba.cell 2
  have kb0 := bb.cell 0
  have kb1 := bb.cell 1
  have kb2 := bb.cell 2
  clear h h' hn hn' ha hb hT g1 g2 g3 g4 la na lb nb hn6 hn6' sa sb nn nm nj
  go_enter Tryd.func3, Tryd.ntmps3
  go_upto_region 1 with fail
  try rw [← hW]
  clear hW
  go_upto_region 3 with (first
    | (go_at_call 5
       have hneed := hla
       refine (HLB.out _ hbw).mono ?_
       rintro e wn ⟨rfl, hbx⟩
       have ba := ba.below hbx ba.lt
       have bb := bb.below hbx bb.lt
       have ka0 := ba.cell 0
       have ka1 := ba.cell 1
       have ka2 := ba.cell 2
       have kb0 := bb.cell 0
       have kb1 := bb.cell 1
       have kb2 := bb.cell 2
       have hbw := hbw.trans (hbx.mono hbw.size)
       have hlb := True.intro)
    | (go_at_call 5
       refine (HLA.out _ hbw).mono ?_
       rintro e wn ⟨rfl, hbx⟩
       have ba := ba.below hbx ba.lt
       have bb := bb.below hbx bb.lt
       have ka0 := ba.cell 0
       have ka1 := ba.cell 1
       have ka2 := ba.cell 2
       have kb0 := bb.cell 0
       have kb1 := bb.cell 1
       have kb2 := bb.cell 2
       have hbw := hbw.trans (hbx.mono hbw.size)
       have hla := True.intro))
  have qc0 := cell_reg_ ((ba.cell 0).trans (show (#[.string a.name, .slice A n c, .bool a.none] : Array Value)[0]? = some (.string a.name) from rfl)) ba.lt
  have qc1 := cell_reg_ ((ba.cell 1).trans (show (#[.string a.name, .slice A n c, .bool a.none] : Array Value)[1]? = some (.slice A n c) from rfl)) ba.lt
  have qc2 := cell_reg_ ((ba.cell 2).trans (show (#[.string a.name, .slice A n c, .bool a.none] : Array Value)[2]? = some (.bool a.none) from rfl)) ba.lt
  have qc3 := cell_reg_ ((bb.cell 0).trans (show (#[.string b.name, .slice A' n' c', .bool b.none] : Array Value)[0]? = some (.string b.name) from rfl)) bb.lt
  have qc4 := cell_reg_ ((bb.cell 1).trans (show (#[.string b.name, .slice A' n' c', .bool b.none] : Array Value)[1]? = some (.slice A' n' c') from rfl)) bb.lt
  have qc5 := cell_reg_ ((bb.cell 2).trans (show (#[.string b.name, .slice A' n' c', .bool b.none] : Array Value)[2]? = some (.bool b.none) from rfl)) bb.lt
  have hbs := hbw.size
  have up := hide (fun (wx : World) (hx : Below _ _ wx) => hbw.trans (hx.mono hbs))
  refine wp_region_grow [(15, isC (.bool true)), (17, isC (.bool true)), (22, isC (.bool q2)), (25, isC (.bool q2)), (30, isC (.string R)), (32, isC (.string R))] [15, 17, 22, 25, 30, 32]
    (by kernel_rfl) (by kernel_rfl) rfl (by kernel_rfl) (by kernel_rfl) ⟨isC_stable _, isC_stable _, isC_stable _, isC_stable _, isC_stable _, isC_stable _, trivial⟩ ?_
  repeat (first
    | (refine lex_skip rfl ?_; simp only [Act.put, List.setIfInBounds_toArray, List.set_cons_zero, List.set_cons_succ])
    | (refine lex_quiet rfl rfl rfl (fun K hK => ?_); unfold Reg; go_big_quiet_op; refine hK _ ?_; clear hK K))
  refine lex_rel rfl rfl (fun w' hb9 hK => ?_) (fun v w' hb9 hv => ?_)
  · clear hK
    unfold grows
    go_simp
    go_at_call 7
    exact call_isC (HC.out w' (up.out _ hb9))
  obtain rfl := hv
  simp only [Act.put, List.setIfInBounds_toArray, List.set_cons_zero, List.set_cons_succ]
  repeat (first
    | (refine lex_skip rfl ?_; simp only [Act.put, List.setIfInBounds_toArray, List.set_cons_zero, List.set_cons_succ])
    | (refine lex_quiet rfl rfl rfl (fun K hK => ?_); unfold Reg; go_big_quiet_op; refine hK _ ?_; clear hK K))
  refine lex_rel rfl rfl (fun w' hb9 hK => ?_) (fun v w' hb9 hv => ?_)
  · clear hK
    unfold grows
    go_simp
    go_at_call 8
    exact call_isC (HRC.out w' (up.out _ hb9))
  obtain rfl := hv
  simp only [Act.put, List.setIfInBounds_toArray, List.set_cons_zero, List.set_cons_succ]
  repeat (first
    | (refine lex_skip rfl ?_; simp only [Act.put, List.setIfInBounds_toArray, List.set_cons_zero, List.set_cons_succ])
    | (refine lex_quiet rfl rfl rfl (fun K hK => ?_); unfold Reg; go_big_quiet_op; refine hK _ ?_; clear hK K))
  refine lex_rel rfl rfl (fun w' hb9 hK => ?_) (fun v w' hb9 hv => ?_)
  · clear hK
    unfold grows
    go_simp
    go_at_call 9
    exact call_isC (HE.out w' (up.out _ hb9))
  obtain rfl := hv
  simp only [Act.put, List.setIfInBounds_toArray, List.set_cons_zero, List.set_cons_succ]
  repeat (first
    | (refine lex_skip rfl ?_; simp only [Act.put, List.setIfInBounds_toArray, List.set_cons_zero, List.set_cons_succ])
    | (refine lex_quiet rfl rfl rfl (fun K hK => ?_); unfold Reg; go_big_quiet_op; refine hK _ ?_; clear hK K))
  refine lex_rel rfl rfl (fun w' hb9 hK => ?_) (fun v w' hb9 hv => ?_)
  · clear hK
    unfold grows
    go_simp
    go_at_call 10
    exact call_isC (HRE.out w' (up.out _ hb9))
  obtain rfl := hv
  simp only [Act.put, List.setIfInBounds_toArray, List.set_cons_zero, List.set_cons_succ]
  repeat (first
    | (refine lex_skip rfl ?_; simp only [Act.put, List.setIfInBounds_toArray, List.set_cons_zero, List.set_cons_succ])
    | (refine lex_quiet rfl rfl rfl (fun K hK => ?_); unfold Reg; go_big_quiet_op; refine hK _ ?_; clear hK K))
  refine lex_rel rfl rfl (fun w' hb9 hK => ?_) (fun v w' hb9 hv => ?_)
  · clear hK
    unfold grows
    go_simp
    go_at_call 11
    exact call_isC (HS.out w' (up.out _ hb9))
  obtain rfl := hv
  simp only [Act.put, List.setIfInBounds_toArray, List.set_cons_zero, List.set_cons_succ]
  repeat (first
    | (refine lex_skip rfl ?_; simp only [Act.put, List.setIfInBounds_toArray, List.set_cons_zero, List.set_cons_succ])
    | (refine lex_quiet rfl rfl rfl (fun K hK => ?_); unfold Reg; go_big_quiet_op; refine hK _ ?_; clear hK K))
  refine lex_rel rfl rfl (fun w' hb9 hK => ?_) (fun v w' hb9 hv => ?_)
  · clear hK
    unfold grows
    go_simp
    go_at_call 12
    exact call_isC (HRS.out w' (up.out _ hb9))
  obtain rfl := hv
  simp only [Act.put, List.setIfInBounds_toArray, List.set_cons_zero, List.set_cons_succ]
  repeat (first
    | (refine lex_skip rfl ?_; simp only [Act.put, List.setIfInBounds_toArray, List.set_cons_zero, List.set_cons_succ])
    | (refine lex_quiet rfl rfl rfl (fun K hK => ?_); unfold Reg; go_big_quiet_op; refine hK _ ?_; clear hK K))
  refine lex_nil (fun w9 hC9 _ => ?_)
  have hb9 := reg_iff.1 hC9
  have hbw := up.out _ hb9
  have ba := ba.below hb9 ba.lt
  have bb := bb.below hb9 bb.lt
  clear hC9 up hbs hb9 qc0 qc1 qc2 qc3 qc4 qc5
  have ka0 := ba.cell 0
  have ka1 := ba.cell 1
  have ka2 := ba.cell 2
  have kb0 := bb.cell 0
  have kb1 := bb.cell 1
  have kb2 := bb.cell 2
  go_upto_region 7 with (first
    | (go_at_call 8
       have hneed := hca
       refine (HRCB.out _ hbw).mono ?_
       rintro e wn ⟨rfl, hbx⟩
       have ba := ba.below hbx ba.lt
       have bb := bb.below hbx bb.lt
       have ka0 := ba.cell 0
       have ka1 := ba.cell 1
       have ka2 := ba.cell 2
       have kb0 := bb.cell 0
       have kb1 := bb.cell 1
       have kb2 := bb.cell 2
       have hbw := hbw.trans (hbx.mono hbw.size))
    | (go_at_call 8
       refine (HRC.out _ hbw).mono ?_
       rintro e wn ⟨rfl, hbx⟩
       have ba := ba.below hbx ba.lt
       have bb := bb.below hbx bb.lt
       have ka0 := ba.cell 0
       have ka1 := ba.cell 1
       have ka2 := ba.cell 2
       have kb0 := bb.cell 0
       have kb1 := bb.cell 1
       have kb2 := bb.cell 2
       have hbw := hbw.trans (hbx.mono hbw.size)
       have hca := True.intro))
  have qc0 := cell_reg_ ((ba.cell 0).trans (show (#[.string a.name, .slice A n c, .bool a.none] : Array Value)[0]? = some (.string a.name) from rfl)) ba.lt
  have qc1 := cell_reg_ ((ba.cell 1).trans (show (#[.string a.name, .slice A n c, .bool a.none] : Array Value)[1]? = some (.slice A n c) from rfl)) ba.lt
  have qc2 := cell_reg_ ((ba.cell 2).trans (show (#[.string a.name, .slice A n c, .bool a.none] : Array Value)[2]? = some (.bool a.none) from rfl)) ba.lt
  have qc3 := cell_reg_ ((bb.cell 0).trans (show (#[.string b.name, .slice A' n' c', .bool b.none] : Array Value)[0]? = some (.string b.name) from rfl)) bb.lt
  have qc4 := cell_reg_ ((bb.cell 1).trans (show (#[.string b.name, .slice A' n' c', .bool b.none] : Array Value)[1]? = some (.slice A' n' c') from rfl)) bb.lt
  have qc5 := cell_reg_ ((bb.cell 2).trans (show (#[.string b.name, .slice A' n' c', .bool b.none] : Array Value)[2]? = some (.bool b.none) from rfl)) bb.lt
  have hbs := hbw.size
  have up := hide (fun (wx : World) (hx : Below _ _ wx) => hbw.trans (hx.mono hbs))
  refine wp_region_grow [(45, isC (.bool q3)), (47, isC (.bool q3)), (51, isC (.bool q4)), (53, isC (.bool q4)), (58, tmO TN), (60, tmO TN), (61, isC (.bool true)), (67, isC (.bool q5)), (70, isC (.bool q5)), (76, isC (.bool a.none))] [45, 47, 51, 53, 58, 60, 61, 67, 70, 76]
    (by kernel_rfl) (by kernel_rfl) rfl (by kernel_rfl) (by kernel_rfl) ⟨isC_stable _, isC_stable _, isC_stable _, isC_stable _, tmO_stable _, tmO_stable _, isC_stable _, isC_stable _, isC_stable _, isC_stable _, trivial⟩ ?_
  repeat (first
    | (refine lex_skip rfl ?_; simp only [Act.put, List.setIfInBounds_toArray, List.set_cons_zero, List.set_cons_succ])
    | (refine lex_quiet rfl rfl rfl (fun K hK => ?_); unfold Reg; go_big_quiet_op; refine hK _ ?_; clear hK K))
  refine lex_rel rfl rfl (fun w' hb9 hK => ?_) (fun v w' hb9 hv => ?_)
  · clear hK
    unfold grows
    go_simp
    go_at_call 13
    exact call_isC (HF.out w' (up.out _ hb9))
  obtain rfl := hv
  simp only [Act.put, List.setIfInBounds_toArray, List.set_cons_zero, List.set_cons_succ]
  repeat (first
    | (refine lex_skip rfl ?_; simp only [Act.put, List.setIfInBounds_toArray, List.set_cons_zero, List.set_cons_succ])
    | (refine lex_quiet rfl rfl rfl (fun K hK => ?_); unfold Reg; go_big_quiet_op; refine hK _ ?_; clear hK K))
  refine lex_rel rfl rfl (fun w' hb9 hK => ?_) (fun v w' hb9 hv => ?_)
  · clear hK
    unfold grows
    go_simp
    go_at_call 14
    exact call_isC (HRF.out w' (up.out _ hb9))
  obtain rfl := hv
  simp only [Act.put, List.setIfInBounds_toArray, List.set_cons_zero, List.set_cons_succ]
  repeat (first
    | (refine lex_skip rfl ?_; simp only [Act.put, List.setIfInBounds_toArray, List.set_cons_zero, List.set_cons_succ])
    | (refine lex_quiet rfl rfl rfl (fun K hK => ?_); unfold Reg; go_big_quiet_op; refine hK _ ?_; clear hK K))
  refine lex_rel rfl rfl (fun w' hb9 hK => ?_) (fun v w' hb9 hv => ?_)
  · clear hK
    unfold grows
    go_simp
    go_at_call 15
    exact call_isC (HM.out w' (up.out _ hb9))
  obtain rfl := hv
  simp only [Act.put, List.setIfInBounds_toArray, List.set_cons_zero, List.set_cons_succ]
  repeat (first
    | (refine lex_skip rfl ?_; simp only [Act.put, List.setIfInBounds_toArray, List.set_cons_zero, List.set_cons_succ])
    | (refine lex_quiet rfl rfl rfl (fun K hK => ?_); unfold Reg; go_big_quiet_op; refine hK _ ?_; clear hK K))
  refine lex_rel rfl rfl (fun w' hb9 hK => ?_) (fun v w' hb9 hv => ?_)
  · clear hK
    unfold grows
    go_simp
    go_at_call 16
    exact call_isC (HRM.out w' (up.out _ hb9))
  obtain rfl := hv
  simp only [Act.put, List.setIfInBounds_toArray, List.set_cons_zero, List.set_cons_succ]
  repeat (first
    | (refine lex_skip rfl ?_; simp only [Act.put, List.setIfInBounds_toArray, List.set_cons_zero, List.set_cons_succ])
    | (refine lex_quiet rfl rfl rfl (fun K hK => ?_); unfold Reg; go_big_quiet_op; refine hK _ ?_; clear hK K))
  refine lex_rel rfl rfl (fun w' hb9 hK => ?_) (fun v w' hb9 hv => ?_)
  · clear hK
    unfold grows
    go_simp
    go_at_call 17
    refine ((HN.out w' (up.out _ hb9))).mono ?_
    rintro e w8 ⟨A8, n8, c8, rfl, h8, hb8⟩
    exact ⟨_, rfl, hb8, A8, n8, c8, rfl, h8⟩
  obtain ⟨Av58, nv58, cv58, rfl, hv58⟩ := hv
  simp only [Act.put, List.setIfInBounds_toArray, List.set_cons_zero, List.set_cons_succ]
  repeat (first
    | (refine lex_skip rfl ?_; simp only [Act.put, List.setIfInBounds_toArray, List.set_cons_zero, List.set_cons_succ])
    | (refine lex_quiet rfl rfl rfl (fun K hK => ?_); unfold Reg; go_big_quiet_op; refine hK _ ?_; clear hK K))
  refine lex_rel rfl rfl (fun w' hb9 hK => ?_) (fun v w' hb9 hv => ?_)
  · clear hK
    unfold grows
    go_simp
    go_at_call 18
    refine ((HRN.out w' (up.out _ hb9))).mono ?_
    rintro e w8 ⟨A8, n8, c8, rfl, h8, hb8⟩
    exact ⟨_, rfl, hb8, A8, n8, c8, rfl, h8⟩
  obtain ⟨Av60, nv60, cv60, rfl, hv60⟩ := hv
  simp only [Act.put, List.setIfInBounds_toArray, List.set_cons_zero, List.set_cons_succ]
  repeat (first
    | (refine lex_skip rfl ?_; simp only [Act.put, List.setIfInBounds_toArray, List.set_cons_zero, List.set_cons_succ])
    | (refine lex_quiet rfl rfl rfl (fun K hK => ?_); unfold Reg; go_big_quiet_op; refine hK _ ?_; clear hK K))
  refine lex_rel rfl rfl (fun w' hb9 hK => ?_) (fun v w' hb9 hv => ?_)
  · obtain ⟨B0, m0, d0, j0, hB0⟩ := hK.at_ 58 rfl rfl (agg_d _)
    have j0' : Value.agg #[.string TN.name, .slice Av58 nv58 cv58, .bool TN.none] = .agg #[.string TN.name, .slice B0 m0 d0, .bool TN.none] := j0
    obtain ⟨x1, x2, x3⟩ := agg_inj j0'
    rw [← x1, ← x2] at hB0
    clear j0 j0' x1 x2 x3
    obtain ⟨B1, m1, d1, j1, hB1⟩ := hK.at_ 60 rfl rfl (agg_d _)
    have j1' : Value.agg #[.string TN.name, .slice Av60 nv60 cv60, .bool TN.none] = .agg #[.string TN.name, .slice B1 m1 d1, .bool TN.none] := j1
    obtain ⟨x1, x2, x3⟩ := agg_inj j1'
    rw [← x1, ← x2] at hB1
    clear j1 j1' x1 x2 x3
    clear hK
    unfold grows
    go_simp
    go_at_call 10
    exact call_isC (HSN.out w' (up.out _ hb9) _ _ _ hB0 _ _ _ hB1)
  obtain rfl := hv
  simp only [Act.put, List.setIfInBounds_toArray, List.set_cons_zero, List.set_cons_succ]
  repeat (first
    | (refine lex_skip rfl ?_; simp only [Act.put, List.setIfInBounds_toArray, List.set_cons_zero, List.set_cons_succ])
    | (refine lex_quiet rfl rfl rfl (fun K hK => ?_); unfold Reg; go_big_quiet_op; refine hK _ ?_; clear hK K))
  refine lex_rel rfl rfl (fun w' hb9 hK => ?_) (fun v w' hb9 hv => ?_)
  · clear hK
    unfold grows
    go_simp
    go_at_call 19
    exact call_isC (HH.out w' (up.out _ hb9))
  obtain rfl := hv
  simp only [Act.put, List.setIfInBounds_toArray, List.set_cons_zero, List.set_cons_succ]
  repeat (first
    | (refine lex_skip rfl ?_; simp only [Act.put, List.setIfInBounds_toArray, List.set_cons_zero, List.set_cons_succ])
    | (refine lex_quiet rfl rfl rfl (fun K hK => ?_); unfold Reg; go_big_quiet_op; refine hK _ ?_; clear hK K))
  refine lex_rel rfl rfl (fun w' hb9 hK => ?_) (fun v w' hb9 hv => ?_)
  · clear hK
    unfold grows
    go_simp
    go_at_call 20
    exact call_isC (HRH.out w' (up.out _ hb9))
  obtain rfl := hv
  simp only [Act.put, List.setIfInBounds_toArray, List.set_cons_zero, List.set_cons_succ]
  repeat (first
    | (refine lex_skip rfl ?_; simp only [Act.put, List.setIfInBounds_toArray, List.set_cons_zero, List.set_cons_succ])
    | (refine lex_quiet rfl rfl rfl (fun K hK => ?_); unfold Reg; go_big_quiet_op; refine hK _ ?_; clear hK K))
  refine lex_rel rfl rfl (fun w' hb9 hK => ?_) (fun v w' hb9 hv => ?_)
  · clear hK
    unfold grows
    go_simp
    go_at_call 19
    exact call_isC (HH0.out w' (up.out _ hb9))
  obtain rfl := hv
  simp only [Act.put, List.setIfInBounds_toArray, List.set_cons_zero, List.set_cons_succ]
  repeat (first
    | (refine lex_skip rfl ?_; simp only [Act.put, List.setIfInBounds_toArray, List.set_cons_zero, List.set_cons_succ])
    | (refine lex_quiet rfl rfl rfl (fun K hK => ?_); unfold Reg; go_big_quiet_op; refine hK _ ?_; clear hK K))
  refine lex_nil (fun w9 hC9 _ => ?_)
  have hb9 := reg_iff.1 hC9
  have hbw := up.out _ hb9
  have ba := ba.below hb9 ba.lt
  have bb := bb.below hb9 bb.lt
  clear hC9 up hbs hb9 qc0 qc1 qc2 qc3 qc4 qc5
  have ka0 := ba.cell 0
  have ka1 := ba.cell 1
  have ka2 := ba.cell 2
  have kb0 := bb.cell 0
  have kb1 := bb.cell 1
  have kb2 := bb.cell 2
  go_upto_region 9 with fail
  have qc0 := cell_reg_ ((ba.cell 0).trans (show (#[.string a.name, .slice A n c, .bool a.none] : Array Value)[0]? = some (.string a.name) from rfl)) ba.lt
  have qc1 := cell_reg_ ((ba.cell 1).trans (show (#[.string a.name, .slice A n c, .bool a.none] : Array Value)[1]? = some (.slice A n c) from rfl)) ba.lt
  have qc2 := cell_reg_ ((ba.cell 2).trans (show (#[.string a.name, .slice A n c, .bool a.none] : Array Value)[2]? = some (.bool a.none) from rfl)) ba.lt
  have qc3 := cell_reg_ ((bb.cell 0).trans (show (#[.string b.name, .slice A' n' c', .bool b.none] : Array Value)[0]? = some (.string b.name) from rfl)) bb.lt
  have qc4 := cell_reg_ ((bb.cell 1).trans (show (#[.string b.name, .slice A' n' c', .bool b.none] : Array Value)[1]? = some (.slice A' n' c') from rfl)) bb.lt
  have qc5 := cell_reg_ ((bb.cell 2).trans (show (#[.string b.name, .slice A' n' c', .bool b.none] : Array Value)[2]? = some (.bool b.none) from rfl)) bb.lt
  have hbs := hbw.size
  have up := hide (fun (wx : World) (hx : Below _ _ wx) => hbw.trans (hx.mono hbs))
  refine wp_region_grow [(83, tmO TM), (86, tmO TM), (87, isC (.bool true)), (91, tmO TJ), (94, tmO TJ), (95, isC (.bool true)), (100, isC (.bool q6)), (103, isC (.bool q6)), (107, isC (.bool true))] [83, 86, 87, 91, 94, 95, 100, 103, 107]
    (by kernel_rfl) (by kernel_rfl) rfl (by kernel_rfl) (by kernel_rfl) ⟨tmO_stable _, tmO_stable _, isC_stable _, tmO_stable _, tmO_stable _, isC_stable _, isC_stable _, isC_stable _, isC_stable _, trivial⟩ ?_
  repeat (first
    | (refine lex_skip rfl ?_; simp only [Act.put, List.setIfInBounds_toArray, List.set_cons_zero, List.set_cons_succ])
    | (refine lex_quiet rfl rfl rfl (fun K hK => ?_); unfold Reg; go_big_quiet_op; refine hK _ ?_; clear hK K))
  refine lex_rel rfl rfl (fun w' hb9 hK => ?_) (fun v w' hb9 hv => ?_)
  · clear hK
    unfold grows
    go_simp
    go_at_call 21
    refine ((HT.out w' (up.out _ hb9))).mono ?_
    rintro e w8 ⟨A8, n8, c8, rfl, h8, hb8⟩
    exact ⟨_, rfl, hb8, A8, n8, c8, rfl, h8⟩
  obtain ⟨Av83, nv83, cv83, rfl, hv83⟩ := hv
  simp only [Act.put, List.setIfInBounds_toArray, List.set_cons_zero, List.set_cons_succ]
  repeat (first
    | (refine lex_skip rfl ?_; simp only [Act.put, List.setIfInBounds_toArray, List.set_cons_zero, List.set_cons_succ])
    | (refine lex_quiet rfl rfl rfl (fun K hK => ?_); unfold Reg; go_big_quiet_op; refine hK _ ?_; clear hK K))
  refine lex_rel rfl rfl (fun w' hb9 hK => ?_) (fun v w' hb9 hv => ?_)
  · clear hK
    unfold grows
    go_simp
    go_at_call 22
    refine ((HRT.out w' (up.out _ hb9))).mono ?_
    rintro e w8 ⟨A8, n8, c8, rfl, h8, hb8⟩
    exact ⟨_, rfl, hb8, A8, n8, c8, rfl, h8⟩
  obtain ⟨Av86, nv86, cv86, rfl, hv86⟩ := hv
  simp only [Act.put, List.setIfInBounds_toArray, List.set_cons_zero, List.set_cons_succ]
  repeat (first
    | (refine lex_skip rfl ?_; simp only [Act.put, List.setIfInBounds_toArray, List.set_cons_zero, List.set_cons_succ])
    | (refine lex_quiet rfl rfl rfl (fun K hK => ?_); unfold Reg; go_big_quiet_op; refine hK _ ?_; clear hK K))
  refine lex_rel rfl rfl (fun w' hb9 hK => ?_) (fun v w' hb9 hv => ?_)
  · obtain ⟨B0, m0, d0, j0, hB0⟩ := hK.at_ 83 rfl rfl (agg_d _)
    have j0' : Value.agg #[.string TM.name, .slice Av83 nv83 cv83, .bool TM.none] = .agg #[.string TM.name, .slice B0 m0 d0, .bool TM.none] := j0
    obtain ⟨x1, x2, x3⟩ := agg_inj j0'
    rw [← x1, ← x2] at hB0
    clear j0 j0' x1 x2 x3
    obtain ⟨B1, m1, d1, j1, hB1⟩ := hK.at_ 86 rfl rfl (agg_d _)
    have j1' : Value.agg #[.string TM.name, .slice Av86 nv86 cv86, .bool TM.none] = .agg #[.string TM.name, .slice B1 m1 d1, .bool TM.none] := j1
    obtain ⟨x1, x2, x3⟩ := agg_inj j1'
    rw [← x1, ← x2] at hB1
    clear j1 j1' x1 x2 x3
    clear hK
    unfold grows
    go_simp
    go_at_call 10
    exact call_isC (HSM.out w' (up.out _ hb9) _ _ _ hB0 _ _ _ hB1)
  obtain rfl := hv
  simp only [Act.put, List.setIfInBounds_toArray, List.set_cons_zero, List.set_cons_succ]
  repeat (first
    | (refine lex_skip rfl ?_; simp only [Act.put, List.setIfInBounds_toArray, List.set_cons_zero, List.set_cons_succ])
    | (refine lex_quiet rfl rfl rfl (fun K hK => ?_); unfold Reg; go_big_quiet_op; refine hK _ ?_; clear hK K))
  refine lex_rel rfl rfl (fun w' hb9 hK => ?_) (fun v w' hb9 hv => ?_)
  · clear hK
    unfold grows
    go_simp
    go_at_call 23
    refine ((HJ.out w' (up.out _ hb9))).mono ?_
    rintro e w8 ⟨A8, n8, c8, rfl, h8, hb8⟩
    exact ⟨_, rfl, hb8, A8, n8, c8, rfl, h8⟩
  obtain ⟨Av91, nv91, cv91, rfl, hv91⟩ := hv
  simp only [Act.put, List.setIfInBounds_toArray, List.set_cons_zero, List.set_cons_succ]
  repeat (first
    | (refine lex_skip rfl ?_; simp only [Act.put, List.setIfInBounds_toArray, List.set_cons_zero, List.set_cons_succ])
    | (refine lex_quiet rfl rfl rfl (fun K hK => ?_); unfold Reg; go_big_quiet_op; refine hK _ ?_; clear hK K))
  refine lex_rel rfl rfl (fun w' hb9 hK => ?_) (fun v w' hb9 hv => ?_)
  · clear hK
    unfold grows
    go_simp
    go_at_call 24
    refine ((HRJ.out w' (up.out _ hb9))).mono ?_
    rintro e w8 ⟨A8, n8, c8, rfl, h8, hb8⟩
    exact ⟨_, rfl, hb8, A8, n8, c8, rfl, h8⟩
  obtain ⟨Av94, nv94, cv94, rfl, hv94⟩ := hv
  simp only [Act.put, List.setIfInBounds_toArray, List.set_cons_zero, List.set_cons_succ]
  repeat (first
    | (refine lex_skip rfl ?_; simp only [Act.put, List.setIfInBounds_toArray, List.set_cons_zero, List.set_cons_succ])
    | (refine lex_quiet rfl rfl rfl (fun K hK => ?_); unfold Reg; go_big_quiet_op; refine hK _ ?_; clear hK K))
  refine lex_rel rfl rfl (fun w' hb9 hK => ?_) (fun v w' hb9 hv => ?_)
  · obtain ⟨B0, m0, d0, j0, hB0⟩ := hK.at_ 91 rfl rfl (agg_d _)
    have j0' : Value.agg #[.string TJ.name, .slice Av91 nv91 cv91, .bool TJ.none] = .agg #[.string TJ.name, .slice B0 m0 d0, .bool TJ.none] := j0
    obtain ⟨x1, x2, x3⟩ := agg_inj j0'
    rw [← x1, ← x2] at hB0
    clear j0 j0' x1 x2 x3
    obtain ⟨B1, m1, d1, j1, hB1⟩ := hK.at_ 94 rfl rfl (agg_d _)
    have j1' : Value.agg #[.string TJ.name, .slice Av94 nv94 cv94, .bool TJ.none] = .agg #[.string TJ.name, .slice B1 m1 d1, .bool TJ.none] := j1
    obtain ⟨x1, x2, x3⟩ := agg_inj j1'
    rw [← x1, ← x2] at hB1
    clear j1 j1' x1 x2 x3
    clear hK
    unfold grows
    go_simp
    go_at_call 10
    exact call_isC (HSJ.out w' (up.out _ hb9) _ _ _ hB0 _ _ _ hB1)
  obtain rfl := hv
  simp only [Act.put, List.setIfInBounds_toArray, List.set_cons_zero, List.set_cons_succ]
  repeat (first
    | (refine lex_skip rfl ?_; simp only [Act.put, List.setIfInBounds_toArray, List.set_cons_zero, List.set_cons_succ])
    | (refine lex_quiet rfl rfl rfl (fun K hK => ?_); unfold Reg; go_big_quiet_op; refine hK _ ?_; clear hK K))
  refine lex_rel rfl rfl (fun w' hb9 hK => ?_) (fun v w' hb9 hv => ?_)
  · clear hK
    unfold grows
    go_simp
    go_at_call 25
    exact call_isC (HI.out w' (up.out _ hb9))
  obtain rfl := hv
  simp only [Act.put, List.setIfInBounds_toArray, List.set_cons_zero, List.set_cons_succ]
  repeat (first
    | (refine lex_skip rfl ?_; simp only [Act.put, List.setIfInBounds_toArray, List.set_cons_zero, List.set_cons_succ])
    | (refine lex_quiet rfl rfl rfl (fun K hK => ?_); unfold Reg; go_big_quiet_op; refine hK _ ?_; clear hK K))
  refine lex_rel rfl rfl (fun w' hb9 hK => ?_) (fun v w' hb9 hv => ?_)
  · clear hK
    unfold grows
    go_simp
    go_at_call 26
    exact call_isC (HRI.out w' (up.out _ hb9))
  obtain rfl := hv
  simp only [Act.put, List.setIfInBounds_toArray, List.set_cons_zero, List.set_cons_succ]
  repeat (first
    | (refine lex_skip rfl ?_; simp only [Act.put, List.setIfInBounds_toArray, List.set_cons_zero, List.set_cons_succ])
    | (refine lex_quiet rfl rfl rfl (fun K hK => ?_); unfold Reg; go_big_quiet_op; refine hK _ ?_; clear hK K))
  refine lex_rel rfl rfl (fun w' hb9 hK => ?_) (fun v w' hb9 hv => ?_)
  · clear hK
    unfold grows
    go_simp
    go_at_call 6
    exact call_isC (HW.out w' (up.out _ hb9))
  obtain rfl := hv
  simp only [Act.put, List.setIfInBounds_toArray, List.set_cons_zero, List.set_cons_succ]
  repeat (first
    | (refine lex_skip rfl ?_; simp only [Act.put, List.setIfInBounds_toArray, List.set_cons_zero, List.set_cons_succ])
    | (refine lex_quiet rfl rfl rfl (fun K hK => ?_); unfold Reg; go_big_quiet_op; refine hK _ ?_; clear hK K))
  refine lex_nil (fun w9 hC9 _ => ?_)
  have hb9 := reg_iff.1 hC9
  have hbw := up.out _ hb9
  have ba := ba.below hb9 ba.lt
  have bb := bb.below hb9 bb.lt
  clear hC9 up hbs hb9 qc0 qc1 qc2 qc3 qc4 qc5
  go_wp2
  go_ret
  exact ⟨rfl, hbw⟩
theorem does_walk (a b : Tm) (p : Int) (A A' : Option Addr) (n c n' c' : Nat) (w : World) (h : SpOn w A n a.set) (h' : SpOn w A' n' b.set)
    (hn : n ≤ 9223372036854775807) (hn' : n' ≤ 9223372036854775807) (ha : a.name.size ≤ 9223372036854775807) (hb : b.name.size ≤ 9223372036854775807) (hT : Tabs w) :
    Calls Tryd.prog 3 #[.agg #[.string a.name, .slice A n c, .bool a.none], .agg #[.string b.name, .slice A' n' c', .bool b.none], .int .i64 p] w fun e w' => e = .returned (.bool true) ∧ Below w.heap.size w w' := by
  cases g1 : largeT a with
  | true => exact does_la a b p A A' n c n' c' w h h' hn hn' ha hb hT g1
  | false =>
    cases g2 : largeT b with
    | true => exact does_lb a b p A A' n c n' c' w h h' hn hn' ha hb hT g1 g2
    | false =>
      cases g3 : (fitL (runes a.name 0) && isSet (-1) a.set) with
      | false => exact does_ca a b p A A' n c n' c' w h h' hn hn' ha hb hT g1 g2 g3
      | true =>
        cases g4 : (fitL (runes b.name 0) && isSet (-1) b.set) with
        | false => exact does_cb a b p A A' n c n' c' w h h' hn hn' ha hb hT g1 g2 g3 g4
        | true => exact does_main a b p A A' n c n' c' w h h' hn hn' ha hb hT g1 g2 g3 g4
end Go.Proofs.YtgmkagddfbfolaaDoor.Term

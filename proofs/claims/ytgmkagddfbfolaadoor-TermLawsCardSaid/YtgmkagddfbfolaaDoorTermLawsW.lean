/-
  The walk of TermLaws: states are sets. Condition: the slices read as spans; lengths as a row bounds them; the tables hold what the texts lay in them.
-/
import Derived.Test.YtgmkagddfbfolaaDoorTermAwake
namespace Go.Proofs.YtgmkagddfbfolaaDoor.Term
open Go Go.RowKit Go.Lib Go.Proofs.YtgmkagddfbfolaaDoor.Span Go.Proofs.YtgmkagddfbfolaaDoor.Need Go.Proofs.YtgmkagddfbfolaaDoor.Grow
open Go.Proofs.YtgmkagddfbfolaaDoor.Label (runes fitL)
open Go.Proofs.YtgmkagddfbfolaaDoor.Ver (Tabs)
set_option linter.unusedVariables false
set_option maxHeartbeats 8000000 in
set_option maxRecDepth 100000 in
theorem laws_la (a b : Tm) (y : ByteArray) (A A' : Option Addr) (n c n' c' : Nat) (w : World) (hnm : b.name = a.name) (h : SpOn w A n a.set) (h' : SpOn w A' n' b.set)
    (hn : n ≤ 9223372036854775807) (hn' : n' ≤ 9223372036854775807) (ha : a.name.size ≤ 9223372036854775807) (hT : Tabs w)
    (g1 : largeT a = true) :
    Calls Tryd.prog 4 #[.agg #[.string a.name, .slice A n c, .bool a.none], .agg #[.string y, .slice A' n' c', .bool b.none]] w fun e w' => e = .returned (.bool true) ∧ Below w.heap.size w w' := by
  have HLA : Hid (∀ wx, Below w.heap.size w wx → Calls Tryd.prog 5 #[.agg #[.string a.name, .slice A n c, .bool a.none]] wx fun e w' => e = .returned (.bool true) ∧ Below wx.heap.size wx w') := hide (fun wx hbx => by
    have := largeT_any a.name a.set a.none A n c wx (h.on hbx) hn ha; rw [show largeT ⟨a.name, a.set, a.none⟩ = true from g1] at this
    first | (unfold Tells at this; exact this) | exact this)
  have HW : Hid (∀ wx, Below w.heap.size w wx → Calls Tryd.prog 6 #[] wx fun e w' => e = .returned (.bool true) ∧ Below wx.heap.size wx w') := hide (fun wx hbx => by
    have := awakeT_any wx (hT.below hbx)
    first | (unfold Tells at this; exact this) | exact this)
  obtain ⟨W, hW⟩ : ∃ W, W = (w.alloc (.cells #[.string a.name, .slice A n c, .bool a.none] 24)).alloc (.cells #[.string y, .slice A' n' c', .bool b.none] 24) := ⟨_, rfl⟩
  have hbW : Below w.heap.size w W := by rw [hW]; exact ((Below.refl _ _).alloc (Nat.le_refl _) _).alloc (by simp) _
  have bA : Blk W w.heap.size 24 #[.string a.name, .slice A n c, .bool a.none] := by rw [hW]; exact (Blk.new w _ _).alloc _
  have bY : Blk W (w.heap.size + 1) 24 #[.string y, .slice A' n' c', .bool b.none] := by
    rw [hW]
    have := Blk.new (w.alloc (.cells #[.string a.name, .slice A n c, .bool a.none] 24)) 24 #[.string y, .slice A' n' c', .bool b.none]
    rwa [World.size_alloc] at this
  obtain ⟨W1, hW1⟩ : ∃ W1, W1 = W.setCell ⟨w.heap.size + 1, 0, none⟩ (.string a.name) := ⟨_, rfl⟩
  have ba : Blk W1 w.heap.size 24 #[.string a.name, .slice A n c, .bool a.none] := by rw [hW1]; exact bA.far (by simp) _
  have bb : Blk W1 (w.heap.size + 1) 24 #[.string a.name, .slice A' n' c', .bool b.none] := by rw [hW1]; exact bY.set_ 0 _
  have hbw : Below w.heap.size w W1 := by rw [hW1]; exact hbW.setCell (by simp) _
  have kA0 := bA.cell 0
  have kY0 := bY.cell 0
  have fY0 := bY.frozen 0
  clear h h' hn hn' ha hT bA bY hbW hnm g1
  go_enter Tryd.func4, Tryd.ntmps4
  go_upto_region 1 with fail
  try rw [← hW]
  clear hW
  go_upto_region 2 with fail
  try rw [← hW1]
  clear hW1 kA0 kY0 fY0
  have ka0 := ba.cell 0
  have ka1 := ba.cell 1
  have ka2 := ba.cell 2
  have kb0 := bb.cell 0
  have kb1 := bb.cell 1
  have kb2 := bb.cell 2
  go_wp2_with (first
    | (go_at_call 6
       refine (HW.out _ hbw).mono ?_
       rintro e wn ⟨rfl, hbx⟩
       have ba := ba.below hbx ba.lt
       have bb := bb.below hbx bb.lt
       have ka0 := ba.cell 0
       have ka1 := ba.cell 1
       have ka2 := ba.cell 2
       have kb0 := bb.cell 0
       have kb1 := bb.cell 1
       have kb2 := bb.cell 2
       have hbw := hbw.trans (hbx.mono hbw.size))
    | (go_at_call 5
       refine (HLA.out _ hbw).mono ?_
       rintro e wn ⟨rfl, hbx⟩
       have ba := ba.below hbx ba.lt
       have bb := bb.below hbx bb.lt
       have ka0 := ba.cell 0
       have ka1 := ba.cell 1
       have ka2 := ba.cell 2
       have kb0 := bb.cell 0
       have kb1 := bb.cell 1
       have kb2 := bb.cell 2
       have hbw := hbw.trans (hbx.mono hbw.size)
       have hla := True.intro))
  go_ret
  exact ⟨rfl, hbw⟩
set_option maxHeartbeats 8000000 in
set_option maxRecDepth 100000 in
theorem laws_lb (a b : Tm) (y : ByteArray) (A A' : Option Addr) (n c n' c' : Nat) (w : World) (hnm : b.name = a.name) (h : SpOn w A n a.set) (h' : SpOn w A' n' b.set)
    (hn : n ≤ 9223372036854775807) (hn' : n' ≤ 9223372036854775807) (ha : a.name.size ≤ 9223372036854775807) (hT : Tabs w)
    (g1 : largeT a = false) (g2 : largeT ⟨a.name, b.set, b.none⟩ = true) :
    Calls Tryd.prog 4 #[.agg #[.string a.name, .slice A n c, .bool a.none], .agg #[.string y, .slice A' n' c', .bool b.none]] w fun e w' => e = .returned (.bool true) ∧ Below w.heap.size w w' := by
  have HLA : Hid (∀ wx, Below w.heap.size w wx → Calls Tryd.prog 5 #[.agg #[.string a.name, .slice A n c, .bool a.none]] wx fun e w' => e = .returned (.bool false) ∧ Below wx.heap.size wx w') := hide (fun wx hbx => by
    have := largeT_any a.name a.set a.none A n c wx (h.on hbx) hn ha; rw [show largeT ⟨a.name, a.set, a.none⟩ = false from g1] at this
    first | (unfold Tells at this; exact this) | exact this)
  have HLB : Hid (∀ wx, Below w.heap.size w wx → Calls Tryd.prog 5 #[.agg #[.string a.name, .slice A' n' c', .bool b.none]] wx fun e w' => e = .returned (.bool true) ∧ Below wx.heap.size wx w') := hide (fun wx hbx => by
    have := largeT_any a.name b.set b.none A' n' c' wx (h'.on hbx) hn' ha; rw [show largeT ⟨a.name, b.set, b.none⟩ = true from g2] at this
    first | (unfold Tells at this; exact this) | exact this)
  have HW : Hid (∀ wx, Below w.heap.size w wx → Calls Tryd.prog 6 #[] wx fun e w' => e = .returned (.bool true) ∧ Below wx.heap.size wx w') := hide (fun wx hbx => by
    have := awakeT_any wx (hT.below hbx)
    first | (unfold Tells at this; exact this) | exact this)
  obtain ⟨W, hW⟩ : ∃ W, W = (w.alloc (.cells #[.string a.name, .slice A n c, .bool a.none] 24)).alloc (.cells #[.string y, .slice A' n' c', .bool b.none] 24) := ⟨_, rfl⟩
  have hbW : Below w.heap.size w W := by rw [hW]; exact ((Below.refl _ _).alloc (Nat.le_refl _) _).alloc (by simp) _
  have bA : Blk W w.heap.size 24 #[.string a.name, .slice A n c, .bool a.none] := by rw [hW]; exact (Blk.new w _ _).alloc _
  have bY : Blk W (w.heap.size + 1) 24 #[.string y, .slice A' n' c', .bool b.none] := by
    rw [hW]
    have := Blk.new (w.alloc (.cells #[.string a.name, .slice A n c, .bool a.none] 24)) 24 #[.string y, .slice A' n' c', .bool b.none]
    rwa [World.size_alloc] at this
  obtain ⟨W1, hW1⟩ : ∃ W1, W1 = W.setCell ⟨w.heap.size + 1, 0, none⟩ (.string a.name) := ⟨_, rfl⟩
  have ba : Blk W1 w.heap.size 24 #[.string a.name, .slice A n c, .bool a.none] := by rw [hW1]; exact bA.far (by simp) _
  have bb : Blk W1 (w.heap.size + 1) 24 #[.string a.name, .slice A' n' c', .bool b.none] := by rw [hW1]; exact bY.set_ 0 _
  have hbw : Below w.heap.size w W1 := by rw [hW1]; exact hbW.setCell (by simp) _
  have kA0 := bA.cell 0
  have kY0 := bY.cell 0
  have fY0 := bY.frozen 0
  clear h h' hn hn' ha hT bA bY hbW hnm g1 g2
  go_enter Tryd.func4, Tryd.ntmps4
  go_upto_region 1 with fail
  try rw [← hW]
  clear hW
  go_upto_region 2 with fail
  try rw [← hW1]
  clear hW1 kA0 kY0 fY0
  have ka0 := ba.cell 0
  have ka1 := ba.cell 1
  have ka2 := ba.cell 2
  have kb0 := bb.cell 0
  have kb1 := bb.cell 1
  have kb2 := bb.cell 2
  go_wp2_with (first
    | (go_at_call 6
       refine (HW.out _ hbw).mono ?_
       rintro e wn ⟨rfl, hbx⟩
       have ba := ba.below hbx ba.lt
       have bb := bb.below hbx bb.lt
       have ka0 := ba.cell 0
       have ka1 := ba.cell 1
       have ka2 := ba.cell 2
       have kb0 := bb.cell 0
       have kb1 := bb.cell 1
       have kb2 := bb.cell 2
       have hbw := hbw.trans (hbx.mono hbw.size))
    | (go_at_call 5
       have hneed := hla
       refine (HLB.out _ hbw).mono ?_
       rintro e wn ⟨rfl, hbx⟩
       have ba := ba.below hbx ba.lt
       have bb := bb.below hbx bb.lt
       have ka0 := ba.cell 0
       have ka1 := ba.cell 1
       have ka2 := ba.cell 2
       have kb0 := bb.cell 0
       have kb1 := bb.cell 1
       have kb2 := bb.cell 2
       have hbw := hbw.trans (hbx.mono hbw.size)
       have hlb := True.intro)
    | (go_at_call 5
       refine (HLA.out _ hbw).mono ?_
       rintro e wn ⟨rfl, hbx⟩
       have ba := ba.below hbx ba.lt
       have bb := bb.below hbx bb.lt
       have ka0 := ba.cell 0
       have ka1 := ba.cell 1
       have ka2 := ba.cell 2
       have kb0 := bb.cell 0
       have kb1 := bb.cell 1
       have kb2 := bb.cell 2
       have hbw := hbw.trans (hbx.mono hbw.size)
       have hla := True.intro))
  go_ret
  exact ⟨rfl, hbw⟩
set_option maxHeartbeats 8000000 in
set_option maxRecDepth 100000 in
theorem laws_ca (a b : Tm) (y : ByteArray) (A A' : Option Addr) (n c n' c' : Nat) (w : World) (hnm : b.name = a.name) (h : SpOn w A n a.set) (h' : SpOn w A' n' b.set)
    (hn : n ≤ 9223372036854775807) (hn' : n' ≤ 9223372036854775807) (ha : a.name.size ≤ 9223372036854775807) (hT : Tabs w)
    (g1 : largeT a = false) (g2 : largeT ⟨a.name, b.set, b.none⟩ = false) (g3 : (fitL (runes a.name 0) && isSet (-1) a.set) = false) :
    Calls Tryd.prog 4 #[.agg #[.string a.name, .slice A n c, .bool a.none], .agg #[.string y, .slice A' n' c', .bool b.none]] w fun e w' => e = .returned (.bool true) ∧ Below w.heap.size w w' := by
  obtain ⟨la, na⟩ := small_of g1
  obtain ⟨lb, nb⟩ := small_of g2
  simp only [] at lb nb
  have hn6 : n ≤ 60 := by have := h.len; omega
  have hn6' : n' ≤ 60 := by have := h'.len; omega
  have HLA : Hid (∀ wx, Below w.heap.size w wx → Calls Tryd.prog 5 #[.agg #[.string a.name, .slice A n c, .bool a.none]] wx fun e w' => e = .returned (.bool false) ∧ Below wx.heap.size wx w') := hide (fun wx hbx => by
    have := largeT_any a.name a.set a.none A n c wx (h.on hbx) hn ha; rw [show largeT ⟨a.name, a.set, a.none⟩ = false from g1] at this
    first | (unfold Tells at this; exact this) | exact this)
  have HLB : Hid (∀ wx, Below w.heap.size w wx → Calls Tryd.prog 5 #[.agg #[.string a.name, .slice A' n' c', .bool b.none]] wx fun e w' => e = .returned (.bool false) ∧ Below wx.heap.size wx w') := hide (fun wx hbx => by
    have := largeT_any a.name b.set b.none A' n' c' wx (h'.on hbx) hn' ha; rw [show largeT ⟨a.name, b.set, b.none⟩ = false from g2] at this
    first | (unfold Tells at this; exact this) | exact this)
  have HC : Hid (∀ wx, Below w.heap.size w wx → Calls Tryd.prog 7 #[.agg #[.string a.name, .slice A n c, .bool a.none]] wx fun e w' => e = .returned (.bool false) ∧ Below wx.heap.size wx w') := hide (fun wx hbx => by
    have := checkT_any a.name a.set a.none A n c wx (h.on hbx) (by omega) (by omega); rw [g3] at this
    first | (unfold Tells at this; exact this) | exact this)
  have HW : Hid (∀ wx, Below w.heap.size w wx → Calls Tryd.prog 6 #[] wx fun e w' => e = .returned (.bool true) ∧ Below wx.heap.size wx w') := hide (fun wx hbx => by
    have := awakeT_any wx (hT.below hbx)
    first | (unfold Tells at this; exact this) | exact this)
  obtain ⟨W, hW⟩ : ∃ W, W = (w.alloc (.cells #[.string a.name, .slice A n c, .bool a.none] 24)).alloc (.cells #[.string y, .slice A' n' c', .bool b.none] 24) := ⟨_, rfl⟩
  have hbW : Below w.heap.size w W := by rw [hW]; exact ((Below.refl _ _).alloc (Nat.le_refl _) _).alloc (by simp) _
  have bA : Blk W w.heap.size 24 #[.string a.name, .slice A n c, .bool a.none] := by rw [hW]; exact (Blk.new w _ _).alloc _
  have bY : Blk W (w.heap.size + 1) 24 #[.string y, .slice A' n' c', .bool b.none] := by
    rw [hW]
    have := Blk.new (w.alloc (.cells #[.string a.name, .slice A n c, .bool a.none] 24)) 24 #[.string y, .slice A' n' c', .bool b.none]
    rwa [World.size_alloc] at this
  obtain ⟨W1, hW1⟩ : ∃ W1, W1 = W.setCell ⟨w.heap.size + 1, 0, none⟩ (.string a.name) := ⟨_, rfl⟩
  have ba : Blk W1 w.heap.size 24 #[.string a.name, .slice A n c, .bool a.none] := by rw [hW1]; exact bA.far (by simp) _
  have bb : Blk W1 (w.heap.size + 1) 24 #[.string a.name, .slice A' n' c', .bool b.none] := by rw [hW1]; exact bY.set_ 0 _
  have hbw : Below w.heap.size w W1 := by rw [hW1]; exact hbW.setCell (by simp) _
  have kA0 := bA.cell 0
  have kY0 := bY.cell 0
  have fY0 := bY.frozen 0
  clear h h' hn hn' ha hT bA bY hbW hnm g1 g2 g3 la na lb nb hn6 hn6'
  go_enter Tryd.func4, Tryd.ntmps4
  go_upto_region 1 with fail
  try rw [← hW]
  clear hW
  go_upto_region 2 with fail
  try rw [← hW1]
  clear hW1 kA0 kY0 fY0
  have ka0 := ba.cell 0
  have ka1 := ba.cell 1
  have ka2 := ba.cell 2
  have kb0 := bb.cell 0
  have kb1 := bb.cell 1
  have kb2 := bb.cell 2
  go_wp2_with (first
    | (go_at_call 6
       refine (HW.out _ hbw).mono ?_
       rintro e wn ⟨rfl, hbx⟩
       have ba := ba.below hbx ba.lt
       have bb := bb.below hbx bb.lt
       have ka0 := ba.cell 0
       have ka1 := ba.cell 1
       have ka2 := ba.cell 2
       have kb0 := bb.cell 0
       have kb1 := bb.cell 1
       have kb2 := bb.cell 2
       have hbw := hbw.trans (hbx.mono hbw.size))
    | (go_at_call 7
       refine (HC.out _ hbw).mono ?_
       rintro e wn ⟨rfl, hbx⟩
       have ba := ba.below hbx ba.lt
       have bb := bb.below hbx bb.lt
       have ka0 := ba.cell 0
       have ka1 := ba.cell 1
       have ka2 := ba.cell 2
       have kb0 := bb.cell 0
       have kb1 := bb.cell 1
       have kb2 := bb.cell 2
       have hbw := hbw.trans (hbx.mono hbw.size)
       have hca := True.intro)
    | (go_at_call 5
       have hneed := hla
       refine (HLB.out _ hbw).mono ?_
       rintro e wn ⟨rfl, hbx⟩
       have ba := ba.below hbx ba.lt
       have bb := bb.below hbx bb.lt
       have ka0 := ba.cell 0
       have ka1 := ba.cell 1
       have ka2 := ba.cell 2
       have kb0 := bb.cell 0
       have kb1 := bb.cell 1
       have kb2 := bb.cell 2
       have hbw := hbw.trans (hbx.mono hbw.size)
       have hlb := True.intro)
    | (go_at_call 5
       refine (HLA.out _ hbw).mono ?_
       rintro e wn ⟨rfl, hbx⟩
       have ba := ba.below hbx ba.lt
       have bb := bb.below hbx bb.lt
       have ka0 := ba.cell 0
       have ka1 := ba.cell 1
       have ka2 := ba.cell 2
       have kb0 := bb.cell 0
       have kb1 := bb.cell 1
       have kb2 := bb.cell 2
       have hbw := hbw.trans (hbx.mono hbw.size)
       have hla := True.intro))
  go_ret
  exact ⟨rfl, hbw⟩
set_option maxHeartbeats 8000000 in
set_option maxRecDepth 100000 in
theorem laws_cb (a b : Tm) (y : ByteArray) (A A' : Option Addr) (n c n' c' : Nat) (w : World) (hnm : b.name = a.name) (h : SpOn w A n a.set) (h' : SpOn w A' n' b.set)
    (hn : n ≤ 9223372036854775807) (hn' : n' ≤ 9223372036854775807) (ha : a.name.size ≤ 9223372036854775807) (hT : Tabs w)
    (g1 : largeT a = false) (g2 : largeT ⟨a.name, b.set, b.none⟩ = false) (g3 : (fitL (runes a.name 0) && isSet (-1) a.set) = true) (g4 : (fitL (runes a.name 0) && isSet (-1) b.set) = false) :
    Calls Tryd.prog 4 #[.agg #[.string a.name, .slice A n c, .bool a.none], .agg #[.string y, .slice A' n' c', .bool b.none]] w fun e w' => e = .returned (.bool true) ∧ Below w.heap.size w w' := by
  obtain ⟨la, na⟩ := small_of g1
  obtain ⟨lb, nb⟩ := small_of g2
  simp only [] at lb nb
  have hn6 : n ≤ 60 := by have := h.len; omega
  have hn6' : n' ≤ 60 := by have := h'.len; omega
  have HLA : Hid (∀ wx, Below w.heap.size w wx → Calls Tryd.prog 5 #[.agg #[.string a.name, .slice A n c, .bool a.none]] wx fun e w' => e = .returned (.bool false) ∧ Below wx.heap.size wx w') := hide (fun wx hbx => by
    have := largeT_any a.name a.set a.none A n c wx (h.on hbx) hn ha; rw [show largeT ⟨a.name, a.set, a.none⟩ = false from g1] at this
    first | (unfold Tells at this; exact this) | exact this)
  have HLB : Hid (∀ wx, Below w.heap.size w wx → Calls Tryd.prog 5 #[.agg #[.string a.name, .slice A' n' c', .bool b.none]] wx fun e w' => e = .returned (.bool false) ∧ Below wx.heap.size wx w') := hide (fun wx hbx => by
    have := largeT_any a.name b.set b.none A' n' c' wx (h'.on hbx) hn' ha; rw [show largeT ⟨a.name, b.set, b.none⟩ = false from g2] at this
    first | (unfold Tells at this; exact this) | exact this)
  have HC : Hid (∀ wx, Below w.heap.size w wx → Calls Tryd.prog 7 #[.agg #[.string a.name, .slice A n c, .bool a.none]] wx fun e w' => e = .returned (.bool true) ∧ Below wx.heap.size wx w') := hide (fun wx hbx => by
    have := checkT_any a.name a.set a.none A n c wx (h.on hbx) (by omega) (by omega); rw [g3] at this
    first | (unfold Tells at this; exact this) | exact this)
  have HCB : Hid (∀ wx, Below w.heap.size w wx → Calls Tryd.prog 7 #[.agg #[.string a.name, .slice A' n' c', .bool b.none]] wx fun e w' => e = .returned (.bool false) ∧ Below wx.heap.size wx w') := hide (fun wx hbx => by
    have := checkT_any a.name b.set b.none A' n' c' wx (h'.on hbx) (by omega) (by omega); rw [g4] at this
    first | (unfold Tells at this; exact this) | exact this)
  have HW : Hid (∀ wx, Below w.heap.size w wx → Calls Tryd.prog 6 #[] wx fun e w' => e = .returned (.bool true) ∧ Below wx.heap.size wx w') := hide (fun wx hbx => by
    have := awakeT_any wx (hT.below hbx)
    first | (unfold Tells at this; exact this) | exact this)
  obtain ⟨W, hW⟩ : ∃ W, W = (w.alloc (.cells #[.string a.name, .slice A n c, .bool a.none] 24)).alloc (.cells #[.string y, .slice A' n' c', .bool b.none] 24) := ⟨_, rfl⟩
  have hbW : Below w.heap.size w W := by rw [hW]; exact ((Below.refl _ _).alloc (Nat.le_refl _) _).alloc (by simp) _
  have bA : Blk W w.heap.size 24 #[.string a.name, .slice A n c, .bool a.none] := by rw [hW]; exact (Blk.new w _ _).alloc _
  have bY : Blk W (w.heap.size + 1) 24 #[.string y, .slice A' n' c', .bool b.none] := by
    rw [hW]
    have := Blk.new (w.alloc (.cells #[.string a.name, .slice A n c, .bool a.none] 24)) 24 #[.string y, .slice A' n' c', .bool b.none]
    rwa [World.size_alloc] at this
  obtain ⟨W1, hW1⟩ : ∃ W1, W1 = W.setCell ⟨w.heap.size + 1, 0, none⟩ (.string a.name) := ⟨_, rfl⟩
  have ba : Blk W1 w.heap.size 24 #[.string a.name, .slice A n c, .bool a.none] := by rw [hW1]; exact bA.far (by simp) _
  have bb : Blk W1 (w.heap.size + 1) 24 #[.string a.name, .slice A' n' c', .bool b.none] := by rw [hW1]; exact bY.set_ 0 _
  have hbw : Below w.heap.size w W1 := by rw [hW1]; exact hbW.setCell (by simp) _
  have kA0 := bA.cell 0
  have kY0 := bY.cell 0
  have fY0 := bY.frozen 0
  clear h h' hn hn' ha hT bA bY hbW hnm g1 g2 g3 g4 la na lb nb hn6 hn6'
  go_enter Tryd.func4, Tryd.ntmps4
  go_upto_region 1 with fail
  try rw [← hW]
  clear hW
  go_upto_region 2 with fail
  try rw [← hW1]
  clear hW1 kA0 kY0 fY0
  have ka0 := ba.cell 0
  have ka1 := ba.cell 1
  have ka2 := ba.cell 2
  have kb0 := bb.cell 0
  have kb1 := bb.cell 1
  have kb2 := bb.cell 2
  go_wp2_with (first
    | (go_at_call 6
       refine (HW.out _ hbw).mono ?_
       rintro e wn ⟨rfl, hbx⟩
       have ba := ba.below hbx ba.lt
       have bb := bb.below hbx bb.lt
       have ka0 := ba.cell 0
       have ka1 := ba.cell 1
       have ka2 := ba.cell 2
       have kb0 := bb.cell 0
       have kb1 := bb.cell 1
       have kb2 := bb.cell 2
       have hbw := hbw.trans (hbx.mono hbw.size))
    | (go_at_call 7
       have hneed := hca
       refine (HCB.out _ hbw).mono ?_
       rintro e wn ⟨rfl, hbx⟩
       have ba := ba.below hbx ba.lt
       have bb := bb.below hbx bb.lt
       have ka0 := ba.cell 0
       have ka1 := ba.cell 1
       have ka2 := ba.cell 2
       have kb0 := bb.cell 0
       have kb1 := bb.cell 1
       have kb2 := bb.cell 2
       have hbw := hbw.trans (hbx.mono hbw.size))
    | (go_at_call 7
       refine (HC.out _ hbw).mono ?_
       rintro e wn ⟨rfl, hbx⟩
       have ba := ba.below hbx ba.lt
       have bb := bb.below hbx bb.lt
       have ka0 := ba.cell 0
       have ka1 := ba.cell 1
       have ka2 := ba.cell 2
       have kb0 := bb.cell 0
       have kb1 := bb.cell 1
       have kb2 := bb.cell 2
       have hbw := hbw.trans (hbx.mono hbw.size)
       have hca := True.intro)
    | (go_at_call 5
       have hneed := hla
       refine (HLB.out _ hbw).mono ?_
       rintro e wn ⟨rfl, hbx⟩
       have ba := ba.below hbx ba.lt
       have bb := bb.below hbx bb.lt
       have ka0 := ba.cell 0
       have ka1 := ba.cell 1
       have ka2 := ba.cell 2
       have kb0 := bb.cell 0
       have kb1 := bb.cell 1
       have kb2 := bb.cell 2
       have hbw := hbw.trans (hbx.mono hbw.size)
       have hlb := True.intro)
    | (go_at_call 5
       refine (HLA.out _ hbw).mono ?_
       rintro e wn ⟨rfl, hbx⟩
       have ba := ba.below hbx ba.lt
       have bb := bb.below hbx bb.lt
       have ka0 := ba.cell 0
       have ka1 := ba.cell 1
       have ka2 := ba.cell 2
       have kb0 := bb.cell 0
       have kb1 := bb.cell 1
       have kb2 := bb.cell 2
       have hbw := hbw.trans (hbx.mono hbw.size)
       have hla := True.intro))
  go_ret
  exact ⟨rfl, hbw⟩
set_option maxHeartbeats 8000000 in
set_option maxRecDepth 100000 in
theorem laws_main (a b : Tm) (y : ByteArray) (A A' : Option Addr) (n c n' c' : Nat) (w : World) (hnm : b.name = a.name) (h : SpOn w A n a.set) (h' : SpOn w A' n' b.set)
    (hn : n ≤ 9223372036854775807) (hn' : n' ≤ 9223372036854775807) (ha : a.name.size ≤ 9223372036854775807) (hT : Tabs w)
    (g1 : largeT a = false) (g2 : largeT ⟨a.name, b.set, b.none⟩ = false) (g3 : (fitL (runes a.name 0) && isSet (-1) a.set) = true) (g4 : (fitL (runes a.name 0) && isSet (-1) b.set) = true) :
    Calls Tryd.prog 4 #[.agg #[.string a.name, .slice A n c, .bool a.none], .agg #[.string y, .slice A' n' c', .bool b.none]] w fun e w' => e = .returned (.bool true) ∧ Below w.heap.size w w' := by
  obtain ⟨la, na⟩ := small_of g1
  obtain ⟨lb, nb⟩ := small_of g2
  simp only [] at lb nb
  have hn6 : n ≤ 60 := by have := h.len; omega
  have hn6' : n' ≤ 60 := by have := h'.len; omega
  have HLA : Hid (∀ wx, Below w.heap.size w wx → Calls Tryd.prog 5 #[.agg #[.string a.name, .slice A n c, .bool a.none]] wx fun e w' => e = .returned (.bool false) ∧ Below wx.heap.size wx w') := hide (fun wx hbx => by
    have := largeT_any a.name a.set a.none A n c wx (h.on hbx) hn ha; rw [show largeT ⟨a.name, a.set, a.none⟩ = false from g1] at this
    first | (unfold Tells at this; exact this) | exact this)
  have HLB : Hid (∀ wx, Below w.heap.size w wx → Calls Tryd.prog 5 #[.agg #[.string a.name, .slice A' n' c', .bool b.none]] wx fun e w' => e = .returned (.bool false) ∧ Below wx.heap.size wx w') := hide (fun wx hbx => by
    have := largeT_any a.name b.set b.none A' n' c' wx (h'.on hbx) hn' ha; rw [show largeT ⟨a.name, b.set, b.none⟩ = false from g2] at this
    first | (unfold Tells at this; exact this) | exact this)
  have HC : Hid (∀ wx, Below w.heap.size w wx → Calls Tryd.prog 7 #[.agg #[.string a.name, .slice A n c, .bool a.none]] wx fun e w' => e = .returned (.bool true) ∧ Below wx.heap.size wx w') := hide (fun wx hbx => by
    have := checkT_any a.name a.set a.none A n c wx (h.on hbx) (by omega) (by omega); rw [g3] at this
    first | (unfold Tells at this; exact this) | exact this)
  have HCB : Hid (∀ wx, Below w.heap.size w wx → Calls Tryd.prog 7 #[.agg #[.string a.name, .slice A' n' c', .bool b.none]] wx fun e w' => e = .returned (.bool true) ∧ Below wx.heap.size wx w') := hide (fun wx hbx => by
    have := checkT_any a.name b.set b.none A' n' c' wx (h'.on hbx) (by omega) (by omega); rw [g4] at this
    first | (unfold Tells at this; exact this) | exact this)
  have HW : Hid (∀ wx, Below w.heap.size w wx → Calls Tryd.prog 6 #[] wx fun e w' => e = .returned (.bool true) ∧ Below wx.heap.size wx w') := hide (fun wx hbx => by
    have := awakeT_any wx (hT.below hbx)
    first | (unfold Tells at this; exact this) | exact this)
  have sa : isSet (-1) a.set = true := by simp only [Bool.and_eq_true] at g3; exact g3.2
  have sb : isSet (-1) b.set = true := by simp only [Bool.and_eq_true] at g4; exact g4.2
  have oa : okT a = true := g3
  obtain ⟨b2, hb2⟩ : ∃ b2 : Tm, b2 = ⟨a.name, b.set, b.none⟩ := ⟨_, rfl⟩
  have en : a.name = b2.name := by rw [hb2]
  have eb : b2.set = b.set := by rw [hb2]
  have ez : b2.none = b.none := by rw [hb2]
  have an : a.name.size ≤ 1000000000 := by omega
  obtain ⟨N, hN⟩ : ∃ N, N = notT a := ⟨_, rfl⟩
  obtain ⟨NB, hNB⟩ : ∃ N, N = notT b2 := ⟨_, rfl⟩
  obtain ⟨J, hJ⟩ : ∃ N, N = joinT a b2 := ⟨_, rfl⟩
  obtain ⟨M, hM⟩ : ∃ N, N = meetT a b2 := ⟨_, rfl⟩
  obtain ⟨NJ, hNJ⟩ : ∃ N, N = notT (joinT a b2) := ⟨_, rfl⟩
  obtain ⟨MN, hMN⟩ : ∃ N, N = meetT (notT a) (notT b2) := ⟨_, rfl⟩
  obtain ⟨ML, hML⟩ : ∃ N, N = meetT a (notT b2) := ⟨_, rfl⟩
  obtain ⟨MX, hMX⟩ : ∃ N, N = meetT a (notT a) := ⟨_, rfl⟩
  obtain ⟨JX, hJX⟩ : ∃ N, N = joinT a (notT a) := ⟨_, rfl⟩
  have nN : N.name = a.name := by rw [hN]; rfl
  have nNB : NB.name = a.name := by rw [hNB, en]; rfl
  have nJ : J.name = a.name := by rw [hJ, join_same en]
  have nM : M.name = a.name := by rw [hM, meet_same en]
  have sN : isSet (-1) N.set = true := by rw [hN]; exact nf_set _
  have sNB : isSet (-1) NB.set = true := by rw [hNB]; exact nf_set _
  have sJ : isSet (-1) J.set = true := by rw [hJ, join_same en]; exact nf_set _
  have sM : isSet (-1) M.set = true := by rw [hM, meet_same en]; exact nf_set _
  have eNN : notT N = a := by rw [hN]; exact not_notT oa
  have eNJ : NJ = MN := by rw [hNJ, hMN]; exact not_join en
  have eMX : emptyT MX = true := by rw [hMX]; exact meet_notT a
  have eJX : fullT JX = true := by rw [hJX]; exact join_notT a
  have eW : withinT a b2 = emptyT ML := by rw [hML]; exact within_is en
  have eWM : withinT M a = true := by rw [hM]; exact meet_withinT en
  have eWJ : withinT a J = true := by rw [hJ]; exact within_join en
  have lJX : JX.set.length ≤ 1000000001 := by rw [hJX, join_same (a := a) (b := notT a) rfl]; exact len_le (nf_set _)
  have lMN : MN.set.length ≤ 1000000001 := by rw [hMN, meet_same (a := notT a) (b := notT b2) en]; exact len_le (nf_set _)
  have h2' : SpOn w A' n' b2.set := by rw [eb]; exact h'
  have sb2 : isSet (-1) b2.set = true := by rw [eb]; exact sb
  have KN : Hid (∀ wx, Below w.heap.size w wx → Calls Tryd.prog 17 #[.agg #[.string a.name, .slice A n c, .bool a.none]] wx (Ans wx (N))) := hide (fun wx hbx => ans_of (by rw [hN]; exact notT_any a.name a.set a.none A n c wx (h.on hbx) an sa))
  have KNB : Hid (∀ wx, Below w.heap.size w wx → Calls Tryd.prog 17 #[.agg #[.string a.name, .slice A' n' c', .bool b.none]] wx (Ans wx (NB))) := hide (fun wx hbx => ans_of (by rw [hNB, hb2]; exact notT_any a.name b.set b.none A' n' c' wx (h'.on hbx) an sb))
  have KJ : Hid (∀ wx, Below w.heap.size w wx → Calls Tryd.prog 23 #[.agg #[.string a.name, .slice A n c, .bool a.none], .agg #[.string a.name, .slice A' n' c', .bool b.none]] wx (Ans wx (J))) := hide (fun wx hbx => ans_of (by rw [hJ, hb2]; exact joinT_any a.name a.name a.set b.set a.none b.none A A' n c n' c' wx (h.on hbx) (h'.on hbx) an sa sb))
  have KM : Hid (∀ wx, Below w.heap.size w wx → Calls Tryd.prog 21 #[.agg #[.string a.name, .slice A n c, .bool a.none], .agg #[.string a.name, .slice A' n' c', .bool b.none]] wx (Ans wx (M))) := hide (fun wx hbx => ans_of (by rw [hM, hb2]; exact meetT_any a.name a.name a.set b.set a.none b.none A A' n c n' c' wx (h.on hbx) (h'.on hbx) an sa sb))
  have KMX : Hid (∀ wx, Below w.heap.size w wx → ∀ (A1 : Option Addr) (n1 c1 : Nat), SpOn wx A1 n1 (N).set → Calls Tryd.prog 21 #[.agg #[.string a.name, .slice A n c, .bool a.none], .agg #[.string (N).name, .slice A1 n1 c1, .bool (N).none]] wx (Ans wx (MX))) := hide (fun wx hbx A1 n1 c1 h1 => ans_of (by rw [hMX, ← hN]; exact meetT_any a.name N.name a.set N.set a.none N.none A A1 n c n1 c1 wx (h.on hbx) h1 an sa sN))
  have KJX : Hid (∀ wx, Below w.heap.size w wx → ∀ (A1 : Option Addr) (n1 c1 : Nat), SpOn wx A1 n1 (N).set → Calls Tryd.prog 23 #[.agg #[.string a.name, .slice A n c, .bool a.none], .agg #[.string (N).name, .slice A1 n1 c1, .bool (N).none]] wx (Ans wx (JX))) := hide (fun wx hbx A1 n1 c1 h1 => ans_of (by rw [hJX, ← hN]; exact joinT_any a.name N.name a.set N.set a.none N.none A A1 n c n1 c1 wx (h.on hbx) h1 an sa sN))
  have KNN : Hid (∀ wx, Below w.heap.size w wx → ∀ (A1 : Option Addr) (n1 c1 : Nat), SpOn wx A1 n1 (N).set → Calls Tryd.prog 17 #[.agg #[.string (N).name, .slice A1 n1 c1, .bool (N).none]] wx (Ans wx (a))) := hide (fun wx hbx A1 n1 c1 h1 => ans_of (by rw [← eNN]; exact notT_any N.name N.set N.none A1 n1 c1 wx h1 (by rw [nN]; exact an) sN))
  have KNJ : Hid (∀ wx, Below w.heap.size w wx → ∀ (A1 : Option Addr) (n1 c1 : Nat), SpOn wx A1 n1 (J).set → Calls Tryd.prog 17 #[.agg #[.string (J).name, .slice A1 n1 c1, .bool (J).none]] wx (Ans wx (NJ))) := hide (fun wx hbx A1 n1 c1 h1 => ans_of (by rw [hNJ, ← hJ]; exact notT_any J.name J.set J.none A1 n1 c1 wx h1 (by rw [nJ]; exact an) sJ))
  have KMN : Hid (∀ wx, Below w.heap.size w wx → ∀ (A1 : Option Addr) (n1 c1 : Nat), SpOn wx A1 n1 (N).set → ∀ (A2 : Option Addr) (n2 c2 : Nat), SpOn wx A2 n2 (NB).set → Calls Tryd.prog 21 #[.agg #[.string (N).name, .slice A1 n1 c1, .bool (N).none], .agg #[.string (NB).name, .slice A2 n2 c2, .bool (NB).none]] wx (Ans wx (NJ))) := hide (fun wx hbx A1 n1 c1 h1 A2 n2 c2 h2 => ans_of (by rw [eNJ, hMN, ← hN, ← hNB]; exact meetT_any N.name NB.name N.set NB.set N.none NB.none A1 A2 n1 c1 n2 c2 wx h1 h2 (by rw [nN]; exact an) sN sNB))
  have KML : Hid (∀ wx, Below w.heap.size w wx → ∀ (A1 : Option Addr) (n1 c1 : Nat), SpOn wx A1 n1 (NB).set → Calls Tryd.prog 21 #[.agg #[.string a.name, .slice A n c, .bool a.none], .agg #[.string (NB).name, .slice A1 n1 c1, .bool (NB).none]] wx (Ans wx (ML))) := hide (fun wx hbx A1 n1 c1 h1 => ans_of (by rw [hML, ← hNB]; exact meetT_any a.name NB.name a.set NB.set a.none NB.none A A1 n c n1 c1 wx (h.on hbx) h1 an sa sNB))
  have KE1 : Hid (∀ wx, Below w.heap.size w wx → ∀ (A1 : Option Addr) (n1 c1 : Nat), SpOn wx A1 n1 (MX).set → Calls Tryd.prog 15 #[.agg #[.string (MX).name, .slice A1 n1 c1, .bool (MX).none]] wx fun e w' => e = .returned (.bool true) ∧ Below wx.heap.size wx w') := hide (fun wx hbx A1 n1 c1 h1 => by
    have := emptyT_any MX.name MX.set MX.none A1 n1 c1 wx h1; rw [show (!MX.none && decide (MX.set = [])) = true from eMX] at this
    first | (unfold Tells at this; exact this) | exact this)
  have KF1 : Hid (∀ wx, Below w.heap.size w wx → ∀ (A1 : Option Addr) (n1 c1 : Nat), SpOn wx A1 n1 (JX).set → Calls Tryd.prog 13 #[.agg #[.string (JX).name, .slice A1 n1 c1, .bool (JX).none]] wx fun e w' => e = .returned (.bool true) ∧ Below wx.heap.size wx w') := hide (fun wx hbx A1 n1 c1 h1 => by
    have := fullT_any JX.name JX.set JX.none A1 n1 c1 wx h1 (by have := h1.len; omega); rw [show (JX.none && decide (JX.set = allS)) = true from eJX] at this
    first | (unfold Tells at this; exact this) | exact this)
  have KS1 : Hid (∀ wx, Below w.heap.size w wx → ∀ (A1 : Option Addr) (n1 c1 : Nat), SpOn wx A1 n1 (a).set → Calls Tryd.prog 9 #[.agg #[.string (a).name, .slice A1 n1 c1, .bool (a).none], .agg #[.string a.name, .slice A n c, .bool a.none]] wx fun e w' => e = .returned (.bool true) ∧ Below wx.heap.size wx w') := hide (fun wx hbx A1 n1 c1 h1 => by
    have := sameT_any a.name a.name a.set a.set a.none a.none A1 A n1 c1 n c wx h1 (h.on hbx) (by have := h1.len; omega) (by omega); rw [same_true] at this
    first | (unfold Tells at this; exact this) | exact this)
  have KS2 : Hid (∀ wx, Below w.heap.size w wx → ∀ (A1 : Option Addr) (n1 c1 : Nat), SpOn wx A1 n1 (NJ).set → ∀ (A2 : Option Addr) (n2 c2 : Nat), SpOn wx A2 n2 (NJ).set → Calls Tryd.prog 9 #[.agg #[.string (NJ).name, .slice A1 n1 c1, .bool (NJ).none], .agg #[.string (NJ).name, .slice A2 n2 c2, .bool (NJ).none]] wx fun e w' => e = .returned (.bool true) ∧ Below wx.heap.size wx w') := hide (fun wx hbx A1 n1 c1 h1 A2 n2 c2 h2 => by
    have := sameT_any NJ.name NJ.name NJ.set NJ.set NJ.none NJ.none A1 A2 n1 c1 n2 c2 wx h1 h2 (by have := h1.len; rw [eNJ] at this; omega) (by have := h2.len; rw [eNJ] at this; omega); rw [same_true] at this
    first | (unfold Tells at this; exact this) | exact this)
  have KW1 : Hid (∀ wx, Below w.heap.size w wx → Calls Tryd.prog 25 #[.agg #[.string a.name, .slice A n c, .bool a.none], .agg #[.string a.name, .slice A' n' c', .bool b.none]] wx fun e w' => e = .returned (.bool (emptyT ML)) ∧ Below wx.heap.size wx w') := hide (fun wx hbx => by
    have := withinT_any a.name a.name a.set b.set a.none b.none A A' n c n' c' wx (h.on hbx) (h'.on hbx) sa sb; rw [show (decide (a.name = a.name) && (decide (lessS a.set b.set = []) && (b.none || !a.none))) = emptyT ML by rw [← eW, hb2]; rfl] at this
    first | (unfold Tells at this; exact this) | exact this)
  have KE2 : Hid (∀ wx, Below w.heap.size w wx → ∀ (A1 : Option Addr) (n1 c1 : Nat), SpOn wx A1 n1 (ML).set → Calls Tryd.prog 15 #[.agg #[.string (ML).name, .slice A1 n1 c1, .bool (ML).none]] wx fun e w' => e = .returned (.bool (emptyT ML)) ∧ Below wx.heap.size wx w') := hide (fun wx hbx A1 n1 c1 h1 => by
    have := emptyT_any ML.name ML.set ML.none A1 n1 c1 wx h1
    first | (unfold Tells at this; exact this) | exact this)
  have KW2 : Hid (∀ wx, Below w.heap.size w wx → ∀ (A1 : Option Addr) (n1 c1 : Nat), SpOn wx A1 n1 (M).set → Calls Tryd.prog 25 #[.agg #[.string (M).name, .slice A1 n1 c1, .bool (M).none], .agg #[.string a.name, .slice A n c, .bool a.none]] wx fun e w' => e = .returned (.bool true) ∧ Below wx.heap.size wx w') := hide (fun wx hbx A1 n1 c1 h1 => by
    have := withinT_any M.name a.name M.set a.set M.none a.none A1 A n1 c1 n c wx h1 (h.on hbx) sM sa; rw [show (decide (M.name = a.name) && (decide (lessS M.set a.set = []) && (a.none || !M.none))) = true from eWM] at this
    first | (unfold Tells at this; exact this) | exact this)
  have KW3 : Hid (∀ wx, Below w.heap.size w wx → ∀ (A1 : Option Addr) (n1 c1 : Nat), SpOn wx A1 n1 (J).set → Calls Tryd.prog 25 #[.agg #[.string a.name, .slice A n c, .bool a.none], .agg #[.string (J).name, .slice A1 n1 c1, .bool (J).none]] wx fun e w' => e = .returned (.bool true) ∧ Below wx.heap.size wx w') := hide (fun wx hbx A1 n1 c1 h1 => by
    have := withinT_any a.name J.name a.set J.set a.none J.none A A1 n c n1 c1 wx (h.on hbx) h1 sa sJ; rw [show (decide (a.name = J.name) && (decide (lessS a.set J.set = []) && (J.none || !a.none))) = true from eWJ] at this
    first | (unfold Tells at this; exact this) | exact this)
  clear eWJ eWM eW eJX eMX eNJ eNN sM sJ sNB sN nM nJ nNB nN lJX lMN h2' sb2 en eb ez
  clear hN hNB hJ hM hNJ hMN hML hMX hJX hb2
  clear MN b2
  generalize emptyT ML = q at *
  have e1 : (q == q) = true := beq_self_eq_true q
  obtain ⟨W, hW⟩ : ∃ W, W = (w.alloc (.cells #[.string a.name, .slice A n c, .bool a.none] 24)).alloc (.cells #[.string y, .slice A' n' c', .bool b.none] 24) := ⟨_, rfl⟩
  have hbW : Below w.heap.size w W := by rw [hW]; exact ((Below.refl _ _).alloc (Nat.le_refl _) _).alloc (by simp) _
  have bA : Blk W w.heap.size 24 #[.string a.name, .slice A n c, .bool a.none] := by rw [hW]; exact (Blk.new w _ _).alloc _
  have bY : Blk W (w.heap.size + 1) 24 #[.string y, .slice A' n' c', .bool b.none] := by
    rw [hW]
    have := Blk.new (w.alloc (.cells #[.string a.name, .slice A n c, .bool a.none] 24)) 24 #[.string y, .slice A' n' c', .bool b.none]
    rwa [World.size_alloc] at this
  obtain ⟨W1, hW1⟩ : ∃ W1, W1 = W.setCell ⟨w.heap.size + 1, 0, none⟩ (.string a.name) := ⟨_, rfl⟩
  have ba : Blk W1 w.heap.size 24 #[.string a.name, .slice A n c, .bool a.none] := by rw [hW1]; exact bA.far (by simp) _
  have bb : Blk W1 (w.heap.size + 1) 24 #[.string a.name, .slice A' n' c', .bool b.none] := by rw [hW1]; exact bY.set_ 0 _
  have hbw : Below w.heap.size w W1 := by rw [hW1]; exact hbW.setCell (by simp) _
  have kA0 := bA.cell 0
  have kY0 := bY.cell 0
  have fY0 := bY.frozen 0
  clear h h' hn hn' ha hT bA bY hbW hnm g1 g2 g3 g4 oa sa sb an la na lb nb hn6 hn6'
  go_enter Tryd.func4, Tryd.ntmps4
  go_upto_region 1 with fail
  try rw [← hW]
  clear hW
  go_upto_region 2 with fail
  try rw [← hW1]
  clear hW1 kA0 kY0 fY0
  have ka0 := ba.cell 0
  have ka1 := ba.cell 1
  have ka2 := ba.cell 2
  have kb0 := bb.cell 0
  have kb1 := bb.cell 1
  have kb2 := bb.cell 2
  go_upto_region 4 with (first
    | (go_at_call 7
       have hneed := hca
       refine (HCB.out _ hbw).mono ?_
       rintro e wn ⟨rfl, hbx⟩
       have ba := ba.below hbx ba.lt
       have bb := bb.below hbx bb.lt
       have ka0 := ba.cell 0
       have ka1 := ba.cell 1
       have ka2 := ba.cell 2
       have kb0 := bb.cell 0
       have kb1 := bb.cell 1
       have kb2 := bb.cell 2
       have hbw := hbw.trans (hbx.mono hbw.size))
    | (go_at_call 7
       refine (HC.out _ hbw).mono ?_
       rintro e wn ⟨rfl, hbx⟩
       have ba := ba.below hbx ba.lt
       have bb := bb.below hbx bb.lt
       have ka0 := ba.cell 0
       have ka1 := ba.cell 1
       have ka2 := ba.cell 2
       have kb0 := bb.cell 0
       have kb1 := bb.cell 1
       have kb2 := bb.cell 2
       have hbw := hbw.trans (hbx.mono hbw.size)
       have hca := True.intro)
    | (go_at_call 5
       have hneed := hla
       refine (HLB.out _ hbw).mono ?_
       rintro e wn ⟨rfl, hbx⟩
       have ba := ba.below hbx ba.lt
       have bb := bb.below hbx bb.lt
       have ka0 := ba.cell 0
       have ka1 := ba.cell 1
       have ka2 := ba.cell 2
       have kb0 := bb.cell 0
       have kb1 := bb.cell 1
       have kb2 := bb.cell 2
       have hbw := hbw.trans (hbx.mono hbw.size)
       have hlb := True.intro)
    | (go_at_call 5
       refine (HLA.out _ hbw).mono ?_
       rintro e wn ⟨rfl, hbx⟩
       have ba := ba.below hbx ba.lt
       have bb := bb.below hbx bb.lt
       have ka0 := ba.cell 0
       have ka1 := ba.cell 1
       have ka2 := ba.cell 2
       have kb0 := bb.cell 0
       have kb1 := bb.cell 1
       have kb2 := bb.cell 2
       have hbw := hbw.trans (hbx.mono hbw.size)
       have hla := True.intro))
  go_upto_region 5 with (first
    | (go_at_call 17
       refine (KN.out _ hbw).mono ?_
       rintro e wn ⟨Ax, nx, cx, rfl, hx0, hbx⟩
       have ba := ba.below hbx ba.lt
       have bb := bb.below hbx bb.lt
       have hbw := hbw.trans (hbx.mono hbw.size)))
  obtain ⟨W5, hW5⟩ : ∃ W5, W5 = wn.alloc (.cells #[.string N.name, .slice Ax nx cx, .bool N.none] 24) := ⟨_, rfl⟩
  have gx : ∃ g, g = wn.heap.size := ⟨_, rfl⟩
  obtain ⟨g, hg⟩ := gx
  have bn : Blk W5 g 24 #[.string N.name, .slice Ax nx cx, .bool N.none] := by rw [hW5, hg]; exact Blk.new _ _ _
  have hx : SpOn W5 Ax nx N.set := by rw [hW5]; exact hx0.on (alloc_b _)
  have ba : Blk W5 w.heap.size 24 #[.string a.name, .slice A n c, .bool a.none] := by rw [hW5]; exact ba.alloc _
  have bb : Blk W5 (w.heap.size + 1) 24 #[.string a.name, .slice A' n' c', .bool b.none] := by rw [hW5]; exact bb.alloc _
  have hbw : Below w.heap.size w W5 := by rw [hW5]; exact hbw.alloc hbw.size _
  try rw [← hg]
  try rw [← hW5]
  clear hW5 hg hx0
  have qc0 := cell_reg_ ((ba.cell 0).trans (show (#[.string a.name, .slice A n c, .bool a.none] : Array Value)[0]? = some (.string a.name) from rfl)) ba.lt
  have qc1 := cell_reg_ ((ba.cell 1).trans (show (#[.string a.name, .slice A n c, .bool a.none] : Array Value)[1]? = some (.slice A n c) from rfl)) ba.lt
  have qc2 := cell_reg_ ((ba.cell 2).trans (show (#[.string a.name, .slice A n c, .bool a.none] : Array Value)[2]? = some (.bool a.none) from rfl)) ba.lt
  have qc3 := cell_reg_ ((bb.cell 0).trans (show (#[.string a.name, .slice A' n' c', .bool b.none] : Array Value)[0]? = some (.string a.name) from rfl)) bb.lt
  have qc4 := cell_reg_ ((bb.cell 1).trans (show (#[.string a.name, .slice A' n' c', .bool b.none] : Array Value)[1]? = some (.slice A' n' c') from rfl)) bb.lt
  have qc5 := cell_reg_ ((bb.cell 2).trans (show (#[.string a.name, .slice A' n' c', .bool b.none] : Array Value)[2]? = some (.bool b.none) from rfl)) bb.lt
  have qc6 := cell_reg_ ((bn.cell 0).trans (show (#[.string N.name, .slice Ax nx cx, .bool N.none] : Array Value)[0]? = some (.string N.name) from rfl)) bn.lt
  have qc7 := cell_reg_ ((bn.cell 1).trans (show (#[.string N.name, .slice Ax nx cx, .bool N.none] : Array Value)[1]? = some (.slice Ax nx cx) from rfl)) bn.lt
  have qc8 := cell_reg_ ((bn.cell 2).trans (show (#[.string N.name, .slice Ax nx cx, .bool N.none] : Array Value)[2]? = some (.bool N.none) from rfl)) bn.lt
  have hbs := hbw.size
  have up := hide (fun (wx : World) (hx : Below _ _ wx) => hbw.trans (hx.mono hbs))
  refine wp_region_grow [(30, tmO MX), (31, isC (.bool true)), (36, tmO JX), (37, isC (.bool true)), (42, tmO a), (44, isC (.bool true))] [30, 31, 36, 37, 42, 44]
    (by kernel_rfl) (by kernel_rfl) rfl (by kernel_rfl) (by kernel_rfl) ⟨tmO_stable _, isC_stable _, tmO_stable _, isC_stable _, tmO_stable _, isC_stable _, trivial⟩ ?_
  repeat (first
    | (refine lex_skip rfl ?_; simp only [Act.put, List.setIfInBounds_toArray, List.set_cons_zero, List.set_cons_succ])
    | (refine lex_quiet rfl rfl rfl (fun K hK => ?_); unfold Reg; go_big_quiet_op; refine hK _ ?_; clear hK K))
  refine lex_rel rfl rfl (fun w' hb9 hK => ?_) (fun v w' hb9 hv => ?_)
  · clear hK
    unfold grows
    go_simp
    go_at_call 21
    refine ((KMX.out w' (up.out _ hb9) _ _ _ (hx.on hb9))).mono ?_
    rintro e w8 ⟨A8, n8, c8, rfl, h8, hb8⟩
    exact ⟨_, rfl, hb8, A8, n8, c8, rfl, h8⟩
  obtain ⟨Av30, nv30, cv30, rfl, hv30⟩ := hv
  simp only [Act.put, List.setIfInBounds_toArray, List.set_cons_zero, List.set_cons_succ]
  repeat (first
    | (refine lex_skip rfl ?_; simp only [Act.put, List.setIfInBounds_toArray, List.set_cons_zero, List.set_cons_succ])
    | (refine lex_quiet rfl rfl rfl (fun K hK => ?_); unfold Reg; go_big_quiet_op; refine hK _ ?_; clear hK K))
  refine lex_rel rfl rfl (fun w' hb9 hK => ?_) (fun v w' hb9 hv => ?_)
  · obtain ⟨B0, m0, d0, j0, hB0⟩ := hK.at_ 30 rfl rfl (agg_d _)
    have j0' : Value.agg #[.string MX.name, .slice Av30 nv30 cv30, .bool MX.none] = .agg #[.string MX.name, .slice B0 m0 d0, .bool MX.none] := j0
    obtain ⟨x1, x2, x3⟩ := agg_inj j0'
    rw [← x1, ← x2] at hB0
    clear j0 j0' x1 x2 x3
    clear hK
    unfold grows
    go_simp
    go_at_call 15
    exact call_isC (KE1.out w' (up.out _ hb9) _ _ _ hB0)
  obtain rfl := hv
  simp only [Act.put, List.setIfInBounds_toArray, List.set_cons_zero, List.set_cons_succ]
  repeat (first
    | (refine lex_skip rfl ?_; simp only [Act.put, List.setIfInBounds_toArray, List.set_cons_zero, List.set_cons_succ])
    | (refine lex_quiet rfl rfl rfl (fun K hK => ?_); unfold Reg; go_big_quiet_op; refine hK _ ?_; clear hK K))
  refine lex_rel rfl rfl (fun w' hb9 hK => ?_) (fun v w' hb9 hv => ?_)
  · clear hK
    unfold grows
    go_simp
    go_at_call 23
    refine ((KJX.out w' (up.out _ hb9) _ _ _ (hx.on hb9))).mono ?_
    rintro e w8 ⟨A8, n8, c8, rfl, h8, hb8⟩
    exact ⟨_, rfl, hb8, A8, n8, c8, rfl, h8⟩
  obtain ⟨Av36, nv36, cv36, rfl, hv36⟩ := hv
  simp only [Act.put, List.setIfInBounds_toArray, List.set_cons_zero, List.set_cons_succ]
  repeat (first
    | (refine lex_skip rfl ?_; simp only [Act.put, List.setIfInBounds_toArray, List.set_cons_zero, List.set_cons_succ])
    | (refine lex_quiet rfl rfl rfl (fun K hK => ?_); unfold Reg; go_big_quiet_op; refine hK _ ?_; clear hK K))
  refine lex_rel rfl rfl (fun w' hb9 hK => ?_) (fun v w' hb9 hv => ?_)
  · obtain ⟨B0, m0, d0, j0, hB0⟩ := hK.at_ 36 rfl rfl (agg_d _)
    have j0' : Value.agg #[.string JX.name, .slice Av36 nv36 cv36, .bool JX.none] = .agg #[.string JX.name, .slice B0 m0 d0, .bool JX.none] := j0
    obtain ⟨x1, x2, x3⟩ := agg_inj j0'
    rw [← x1, ← x2] at hB0
    clear j0 j0' x1 x2 x3
    clear hK
    unfold grows
    go_simp
    go_at_call 13
    exact call_isC (KF1.out w' (up.out _ hb9) _ _ _ hB0)
  obtain rfl := hv
  simp only [Act.put, List.setIfInBounds_toArray, List.set_cons_zero, List.set_cons_succ]
  repeat (first
    | (refine lex_skip rfl ?_; simp only [Act.put, List.setIfInBounds_toArray, List.set_cons_zero, List.set_cons_succ])
    | (refine lex_quiet rfl rfl rfl (fun K hK => ?_); unfold Reg; go_big_quiet_op; refine hK _ ?_; clear hK K))
  refine lex_rel rfl rfl (fun w' hb9 hK => ?_) (fun v w' hb9 hv => ?_)
  · clear hK
    unfold grows
    go_simp
    go_at_call 17
    refine ((KNN.out w' (up.out _ hb9) _ _ _ (hx.on hb9))).mono ?_
    rintro e w8 ⟨A8, n8, c8, rfl, h8, hb8⟩
    exact ⟨_, rfl, hb8, A8, n8, c8, rfl, h8⟩
  obtain ⟨Av42, nv42, cv42, rfl, hv42⟩ := hv
  simp only [Act.put, List.setIfInBounds_toArray, List.set_cons_zero, List.set_cons_succ]
  repeat (first
    | (refine lex_skip rfl ?_; simp only [Act.put, List.setIfInBounds_toArray, List.set_cons_zero, List.set_cons_succ])
    | (refine lex_quiet rfl rfl rfl (fun K hK => ?_); unfold Reg; go_big_quiet_op; refine hK _ ?_; clear hK K))
  refine lex_rel rfl rfl (fun w' hb9 hK => ?_) (fun v w' hb9 hv => ?_)
  · obtain ⟨B0, m0, d0, j0, hB0⟩ := hK.at_ 42 rfl rfl (agg_d _)
    have j0' : Value.agg #[.string a.name, .slice Av42 nv42 cv42, .bool a.none] = .agg #[.string a.name, .slice B0 m0 d0, .bool a.none] := j0
    obtain ⟨x1, x2, x3⟩ := agg_inj j0'
    rw [← x1, ← x2] at hB0
    clear j0 j0' x1 x2 x3
    clear hK
    unfold grows
    go_simp
    go_at_call 9
    exact call_isC (KS1.out w' (up.out _ hb9) _ _ _ hB0)
  obtain rfl := hv
  simp only [Act.put, List.setIfInBounds_toArray, List.set_cons_zero, List.set_cons_succ]
  repeat (first
    | (refine lex_skip rfl ?_; simp only [Act.put, List.setIfInBounds_toArray, List.set_cons_zero, List.set_cons_succ])
    | (refine lex_quiet rfl rfl rfl (fun K hK => ?_); unfold Reg; go_big_quiet_op; refine hK _ ?_; clear hK K))
  refine lex_nil (fun w9 hC9 _ => ?_)
  have hb9 := reg_iff.1 hC9
  have hbw := up.out _ hb9
  have ba := ba.below hb9 ba.lt
  have bb := bb.below hb9 bb.lt
  have bn := bn.below hb9 bn.lt
  have hx := hx.on hb9
  clear hC9 up hbs hb9 qc0 qc1 qc2 qc3 qc4 qc5 qc6 qc7 qc8
  go_upto_region 7 with fail
  have qc0 := cell_reg_ ((ba.cell 0).trans (show (#[.string a.name, .slice A n c, .bool a.none] : Array Value)[0]? = some (.string a.name) from rfl)) ba.lt
  have qc1 := cell_reg_ ((ba.cell 1).trans (show (#[.string a.name, .slice A n c, .bool a.none] : Array Value)[1]? = some (.slice A n c) from rfl)) ba.lt
  have qc2 := cell_reg_ ((ba.cell 2).trans (show (#[.string a.name, .slice A n c, .bool a.none] : Array Value)[2]? = some (.bool a.none) from rfl)) ba.lt
  have qc3 := cell_reg_ ((bb.cell 0).trans (show (#[.string a.name, .slice A' n' c', .bool b.none] : Array Value)[0]? = some (.string a.name) from rfl)) bb.lt
  have qc4 := cell_reg_ ((bb.cell 1).trans (show (#[.string a.name, .slice A' n' c', .bool b.none] : Array Value)[1]? = some (.slice A' n' c') from rfl)) bb.lt
  have qc5 := cell_reg_ ((bb.cell 2).trans (show (#[.string a.name, .slice A' n' c', .bool b.none] : Array Value)[2]? = some (.bool b.none) from rfl)) bb.lt
  have qc6 := cell_reg_ ((bn.cell 0).trans (show (#[.string N.name, .slice Ax nx cx, .bool N.none] : Array Value)[0]? = some (.string N.name) from rfl)) bn.lt
  have qc7 := cell_reg_ ((bn.cell 1).trans (show (#[.string N.name, .slice Ax nx cx, .bool N.none] : Array Value)[1]? = some (.slice Ax nx cx) from rfl)) bn.lt
  have qc8 := cell_reg_ ((bn.cell 2).trans (show (#[.string N.name, .slice Ax nx cx, .bool N.none] : Array Value)[2]? = some (.bool N.none) from rfl)) bn.lt
  have hbs := hbw.size
  have up := hide (fun (wx : World) (hx : Below _ _ wx) => hbw.trans (hx.mono hbs))
  refine wp_region_grow [(49, tmO J), (50, tmO NJ), (53, tmO NB), (54, tmO NJ), (55, isC (.bool true)), (59, isC (.bool q)), (62, tmO NB), (63, tmO ML), (64, isC (.bool q)), (70, tmO M), (72, isC (.bool true)), (78, tmO J), (79, isC (.bool true)), (82, isC (.bool true))] [49, 50, 53, 54, 55, 59, 62, 63, 64, 70, 72, 78, 79, 82]
    (by kernel_rfl) (by kernel_rfl) rfl (by kernel_rfl) (by kernel_rfl) ⟨tmO_stable _, tmO_stable _, tmO_stable _, tmO_stable _, isC_stable _, isC_stable _, tmO_stable _, tmO_stable _, isC_stable _, tmO_stable _, isC_stable _, tmO_stable _, isC_stable _, isC_stable _, trivial⟩ ?_
  repeat (first
    | (refine lex_skip rfl ?_; simp only [Act.put, List.setIfInBounds_toArray, List.set_cons_zero, List.set_cons_succ])
    | (refine lex_quiet rfl rfl rfl (fun K hK => ?_); unfold Reg; go_big_quiet_op; refine hK _ ?_; clear hK K))
  refine lex_rel rfl rfl (fun w' hb9 hK => ?_) (fun v w' hb9 hv => ?_)
  · clear hK
    unfold grows
    go_simp
    go_at_call 23
    refine ((KJ.out w' (up.out _ hb9))).mono ?_
    rintro e w8 ⟨A8, n8, c8, rfl, h8, hb8⟩
    exact ⟨_, rfl, hb8, A8, n8, c8, rfl, h8⟩
  obtain ⟨Av49, nv49, cv49, rfl, hv49⟩ := hv
  simp only [Act.put, List.setIfInBounds_toArray, List.set_cons_zero, List.set_cons_succ]
  repeat (first
    | (refine lex_skip rfl ?_; simp only [Act.put, List.setIfInBounds_toArray, List.set_cons_zero, List.set_cons_succ])
    | (refine lex_quiet rfl rfl rfl (fun K hK => ?_); unfold Reg; go_big_quiet_op; refine hK _ ?_; clear hK K))
  refine lex_rel rfl rfl (fun w' hb9 hK => ?_) (fun v w' hb9 hv => ?_)
  · obtain ⟨B0, m0, d0, j0, hB0⟩ := hK.at_ 49 rfl rfl (agg_d _)
    have j0' : Value.agg #[.string J.name, .slice Av49 nv49 cv49, .bool J.none] = .agg #[.string J.name, .slice B0 m0 d0, .bool J.none] := j0
    obtain ⟨x1, x2, x3⟩ := agg_inj j0'
    rw [← x1, ← x2] at hB0
    clear j0 j0' x1 x2 x3
    clear hK
    unfold grows
    go_simp
    go_at_call 17
    refine ((KNJ.out w' (up.out _ hb9) _ _ _ hB0)).mono ?_
    rintro e w8 ⟨A8, n8, c8, rfl, h8, hb8⟩
    exact ⟨_, rfl, hb8, A8, n8, c8, rfl, h8⟩
  obtain ⟨Av50, nv50, cv50, rfl, hv50⟩ := hv
  simp only [Act.put, List.setIfInBounds_toArray, List.set_cons_zero, List.set_cons_succ]
  repeat (first
    | (refine lex_skip rfl ?_; simp only [Act.put, List.setIfInBounds_toArray, List.set_cons_zero, List.set_cons_succ])
    | (refine lex_quiet rfl rfl rfl (fun K hK => ?_); unfold Reg; go_big_quiet_op; refine hK _ ?_; clear hK K))
  refine lex_rel rfl rfl (fun w' hb9 hK => ?_) (fun v w' hb9 hv => ?_)
  · clear hK
    unfold grows
    go_simp
    go_at_call 17
    refine ((KNB.out w' (up.out _ hb9))).mono ?_
    rintro e w8 ⟨A8, n8, c8, rfl, h8, hb8⟩
    exact ⟨_, rfl, hb8, A8, n8, c8, rfl, h8⟩
  obtain ⟨Av53, nv53, cv53, rfl, hv53⟩ := hv
  simp only [Act.put, List.setIfInBounds_toArray, List.set_cons_zero, List.set_cons_succ]
  repeat (first
    | (refine lex_skip rfl ?_; simp only [Act.put, List.setIfInBounds_toArray, List.set_cons_zero, List.set_cons_succ])
    | (refine lex_quiet rfl rfl rfl (fun K hK => ?_); unfold Reg; go_big_quiet_op; refine hK _ ?_; clear hK K))
  refine lex_rel rfl rfl (fun w' hb9 hK => ?_) (fun v w' hb9 hv => ?_)
  · obtain ⟨B0, m0, d0, j0, hB0⟩ := hK.at_ 53 rfl rfl (agg_d _)
    have j0' : Value.agg #[.string NB.name, .slice Av53 nv53 cv53, .bool NB.none] = .agg #[.string NB.name, .slice B0 m0 d0, .bool NB.none] := j0
    obtain ⟨x1, x2, x3⟩ := agg_inj j0'
    rw [← x1, ← x2] at hB0
    clear j0 j0' x1 x2 x3
    clear hK
    unfold grows
    go_simp
    go_at_call 21
    refine ((KMN.out w' (up.out _ hb9) _ _ _ (hx.on hb9) _ _ _ hB0)).mono ?_
    rintro e w8 ⟨A8, n8, c8, rfl, h8, hb8⟩
    exact ⟨_, rfl, hb8, A8, n8, c8, rfl, h8⟩
  obtain ⟨Av54, nv54, cv54, rfl, hv54⟩ := hv
  simp only [Act.put, List.setIfInBounds_toArray, List.set_cons_zero, List.set_cons_succ]
  repeat (first
    | (refine lex_skip rfl ?_; simp only [Act.put, List.setIfInBounds_toArray, List.set_cons_zero, List.set_cons_succ])
    | (refine lex_quiet rfl rfl rfl (fun K hK => ?_); unfold Reg; go_big_quiet_op; refine hK _ ?_; clear hK K))
  refine lex_rel rfl rfl (fun w' hb9 hK => ?_) (fun v w' hb9 hv => ?_)
  · obtain ⟨B0, m0, d0, j0, hB0⟩ := hK.at_ 50 rfl rfl (agg_d _)
    have j0' : Value.agg #[.string NJ.name, .slice Av50 nv50 cv50, .bool NJ.none] = .agg #[.string NJ.name, .slice B0 m0 d0, .bool NJ.none] := j0
    obtain ⟨x1, x2, x3⟩ := agg_inj j0'
    rw [← x1, ← x2] at hB0
    clear j0 j0' x1 x2 x3
    obtain ⟨B1, m1, d1, j1, hB1⟩ := hK.at_ 54 rfl rfl (agg_d _)
    have j1' : Value.agg #[.string NJ.name, .slice Av54 nv54 cv54, .bool NJ.none] = .agg #[.string NJ.name, .slice B1 m1 d1, .bool NJ.none] := j1
    obtain ⟨x1, x2, x3⟩ := agg_inj j1'
    rw [← x1, ← x2] at hB1
    clear j1 j1' x1 x2 x3
    clear hK
    unfold grows
    go_simp
    go_at_call 9
    exact call_isC (KS2.out w' (up.out _ hb9) _ _ _ hB0 _ _ _ hB1)
  obtain rfl := hv
  simp only [Act.put, List.setIfInBounds_toArray, List.set_cons_zero, List.set_cons_succ]
  repeat (first
    | (refine lex_skip rfl ?_; simp only [Act.put, List.setIfInBounds_toArray, List.set_cons_zero, List.set_cons_succ])
    | (refine lex_quiet rfl rfl rfl (fun K hK => ?_); unfold Reg; go_big_quiet_op; refine hK _ ?_; clear hK K))
  refine lex_rel rfl rfl (fun w' hb9 hK => ?_) (fun v w' hb9 hv => ?_)
  · clear hK
    unfold grows
    go_simp
    go_at_call 25
    exact call_isC (KW1.out w' (up.out _ hb9))
  obtain rfl := hv
  simp only [Act.put, List.setIfInBounds_toArray, List.set_cons_zero, List.set_cons_succ]
  repeat (first
    | (refine lex_skip rfl ?_; simp only [Act.put, List.setIfInBounds_toArray, List.set_cons_zero, List.set_cons_succ])
    | (refine lex_quiet rfl rfl rfl (fun K hK => ?_); unfold Reg; go_big_quiet_op; refine hK _ ?_; clear hK K))
  refine lex_rel rfl rfl (fun w' hb9 hK => ?_) (fun v w' hb9 hv => ?_)
  · clear hK
    unfold grows
    go_simp
    go_at_call 17
    refine ((KNB.out w' (up.out _ hb9))).mono ?_
    rintro e w8 ⟨A8, n8, c8, rfl, h8, hb8⟩
    exact ⟨_, rfl, hb8, A8, n8, c8, rfl, h8⟩
  obtain ⟨Av62, nv62, cv62, rfl, hv62⟩ := hv
  simp only [Act.put, List.setIfInBounds_toArray, List.set_cons_zero, List.set_cons_succ]
  repeat (first
    | (refine lex_skip rfl ?_; simp only [Act.put, List.setIfInBounds_toArray, List.set_cons_zero, List.set_cons_succ])
    | (refine lex_quiet rfl rfl rfl (fun K hK => ?_); unfold Reg; go_big_quiet_op; refine hK _ ?_; clear hK K))
  refine lex_rel rfl rfl (fun w' hb9 hK => ?_) (fun v w' hb9 hv => ?_)
  · obtain ⟨B0, m0, d0, j0, hB0⟩ := hK.at_ 62 rfl rfl (agg_d _)
    have j0' : Value.agg #[.string NB.name, .slice Av62 nv62 cv62, .bool NB.none] = .agg #[.string NB.name, .slice B0 m0 d0, .bool NB.none] := j0
    obtain ⟨x1, x2, x3⟩ := agg_inj j0'
    rw [← x1, ← x2] at hB0
    clear j0 j0' x1 x2 x3
    clear hK
    unfold grows
    go_simp
    go_at_call 21
    refine ((KML.out w' (up.out _ hb9) _ _ _ hB0)).mono ?_
    rintro e w8 ⟨A8, n8, c8, rfl, h8, hb8⟩
    exact ⟨_, rfl, hb8, A8, n8, c8, rfl, h8⟩
  obtain ⟨Av63, nv63, cv63, rfl, hv63⟩ := hv
  simp only [Act.put, List.setIfInBounds_toArray, List.set_cons_zero, List.set_cons_succ]
  repeat (first
    | (refine lex_skip rfl ?_; simp only [Act.put, List.setIfInBounds_toArray, List.set_cons_zero, List.set_cons_succ])
    | (refine lex_quiet rfl rfl rfl (fun K hK => ?_); unfold Reg; go_big_quiet_op; refine hK _ ?_; clear hK K))
  refine lex_rel rfl rfl (fun w' hb9 hK => ?_) (fun v w' hb9 hv => ?_)
  · obtain ⟨B0, m0, d0, j0, hB0⟩ := hK.at_ 63 rfl rfl (agg_d _)
    have j0' : Value.agg #[.string ML.name, .slice Av63 nv63 cv63, .bool ML.none] = .agg #[.string ML.name, .slice B0 m0 d0, .bool ML.none] := j0
    obtain ⟨x1, x2, x3⟩ := agg_inj j0'
    rw [← x1, ← x2] at hB0
    clear j0 j0' x1 x2 x3
    clear hK
    unfold grows
    go_simp
    go_at_call 15
    exact call_isC (KE2.out w' (up.out _ hb9) _ _ _ hB0)
  obtain rfl := hv
  simp only [Act.put, List.setIfInBounds_toArray, List.set_cons_zero, List.set_cons_succ]
  repeat (first
    | (refine lex_skip rfl ?_; simp only [Act.put, List.setIfInBounds_toArray, List.set_cons_zero, List.set_cons_succ])
    | (refine lex_quiet rfl rfl rfl (fun K hK => ?_); unfold Reg; go_big_quiet_op; refine hK _ ?_; clear hK K))
  refine lex_rel rfl rfl (fun w' hb9 hK => ?_) (fun v w' hb9 hv => ?_)
  · clear hK
    unfold grows
    go_simp
    go_at_call 21
    refine ((KM.out w' (up.out _ hb9))).mono ?_
    rintro e w8 ⟨A8, n8, c8, rfl, h8, hb8⟩
    exact ⟨_, rfl, hb8, A8, n8, c8, rfl, h8⟩
  obtain ⟨Av70, nv70, cv70, rfl, hv70⟩ := hv
  simp only [Act.put, List.setIfInBounds_toArray, List.set_cons_zero, List.set_cons_succ]
  repeat (first
    | (refine lex_skip rfl ?_; simp only [Act.put, List.setIfInBounds_toArray, List.set_cons_zero, List.set_cons_succ])
    | (refine lex_quiet rfl rfl rfl (fun K hK => ?_); unfold Reg; go_big_quiet_op; refine hK _ ?_; clear hK K))
  refine lex_rel rfl rfl (fun w' hb9 hK => ?_) (fun v w' hb9 hv => ?_)
  · obtain ⟨B0, m0, d0, j0, hB0⟩ := hK.at_ 70 rfl rfl (agg_d _)
    have j0' : Value.agg #[.string M.name, .slice Av70 nv70 cv70, .bool M.none] = .agg #[.string M.name, .slice B0 m0 d0, .bool M.none] := j0
    obtain ⟨x1, x2, x3⟩ := agg_inj j0'
    rw [← x1, ← x2] at hB0
    clear j0 j0' x1 x2 x3
    clear hK
    unfold grows
    go_simp
    go_at_call 25
    exact call_isC (KW2.out w' (up.out _ hb9) _ _ _ hB0)
  obtain rfl := hv
  simp only [Act.put, List.setIfInBounds_toArray, List.set_cons_zero, List.set_cons_succ]
  repeat (first
    | (refine lex_skip rfl ?_; simp only [Act.put, List.setIfInBounds_toArray, List.set_cons_zero, List.set_cons_succ])
    | (refine lex_quiet rfl rfl rfl (fun K hK => ?_); unfold Reg; go_big_quiet_op; refine hK _ ?_; clear hK K))
  refine lex_rel rfl rfl (fun w' hb9 hK => ?_) (fun v w' hb9 hv => ?_)
  · clear hK
    unfold grows
    go_simp
    go_at_call 23
    refine ((KJ.out w' (up.out _ hb9))).mono ?_
    rintro e w8 ⟨A8, n8, c8, rfl, h8, hb8⟩
    exact ⟨_, rfl, hb8, A8, n8, c8, rfl, h8⟩
  obtain ⟨Av78, nv78, cv78, rfl, hv78⟩ := hv
  simp only [Act.put, List.setIfInBounds_toArray, List.set_cons_zero, List.set_cons_succ]
  repeat (first
    | (refine lex_skip rfl ?_; simp only [Act.put, List.setIfInBounds_toArray, List.set_cons_zero, List.set_cons_succ])
    | (refine lex_quiet rfl rfl rfl (fun K hK => ?_); unfold Reg; go_big_quiet_op; refine hK _ ?_; clear hK K))
  refine lex_rel rfl rfl (fun w' hb9 hK => ?_) (fun v w' hb9 hv => ?_)
  · obtain ⟨B0, m0, d0, j0, hB0⟩ := hK.at_ 78 rfl rfl (agg_d _)
    have j0' : Value.agg #[.string J.name, .slice Av78 nv78 cv78, .bool J.none] = .agg #[.string J.name, .slice B0 m0 d0, .bool J.none] := j0
    obtain ⟨x1, x2, x3⟩ := agg_inj j0'
    rw [← x1, ← x2] at hB0
    clear j0 j0' x1 x2 x3
    clear hK
    unfold grows
    go_simp
    go_at_call 25
    exact call_isC (KW3.out w' (up.out _ hb9) _ _ _ hB0)
  obtain rfl := hv
  simp only [Act.put, List.setIfInBounds_toArray, List.set_cons_zero, List.set_cons_succ]
  repeat (first
    | (refine lex_skip rfl ?_; simp only [Act.put, List.setIfInBounds_toArray, List.set_cons_zero, List.set_cons_succ])
    | (refine lex_quiet rfl rfl rfl (fun K hK => ?_); unfold Reg; go_big_quiet_op; refine hK _ ?_; clear hK K))
  refine lex_rel rfl rfl (fun w' hb9 hK => ?_) (fun v w' hb9 hv => ?_)
  · clear hK
    unfold grows
    go_simp
    go_at_call 6
    exact call_isC (HW.out w' (up.out _ hb9))
  obtain rfl := hv
  simp only [Act.put, List.setIfInBounds_toArray, List.set_cons_zero, List.set_cons_succ]
  repeat (first
    | (refine lex_skip rfl ?_; simp only [Act.put, List.setIfInBounds_toArray, List.set_cons_zero, List.set_cons_succ])
    | (refine lex_quiet rfl rfl rfl (fun K hK => ?_); unfold Reg; go_big_quiet_op; refine hK _ ?_; clear hK K))
  refine lex_nil (fun w9 hC9 _ => ?_)
  have hb9 := reg_iff.1 hC9
  have hbw := up.out _ hb9
  have ba := ba.below hb9 ba.lt
  have bb := bb.below hb9 bb.lt
  have bn := bn.below hb9 bn.lt
  clear hC9 up hbs hb9 qc0 qc1 qc2 qc3 qc4 qc5 qc6 qc7 qc8
  go_wp2
  go_ret
  exact ⟨rfl, hbw⟩
theorem laws_walk (a b : Tm) (y : ByteArray) (A A' : Option Addr) (n c n' c' : Nat) (w : World) (hnm : b.name = a.name) (h : SpOn w A n a.set) (h' : SpOn w A' n' b.set)
    (hn : n ≤ 9223372036854775807) (hn' : n' ≤ 9223372036854775807) (ha : a.name.size ≤ 9223372036854775807) (hT : Tabs w) :
    Calls Tryd.prog 4 #[.agg #[.string a.name, .slice A n c, .bool a.none], .agg #[.string y, .slice A' n' c', .bool b.none]] w fun e w' => e = .returned (.bool true) ∧ Below w.heap.size w w' := by
  cases g1 : largeT a with
  | true => exact laws_la a b y A A' n c n' c' w hnm h h' hn hn' ha hT g1
  | false =>
    cases g2 : largeT ⟨a.name, b.set, b.none⟩ with
    | true => exact laws_lb a b y A A' n c n' c' w hnm h h' hn hn' ha hT g1 g2
    | false =>
      cases g3 : (fitL (runes a.name 0) && isSet (-1) a.set) with
      | false => exact laws_ca a b y A A' n c n' c' w hnm h h' hn hn' ha hT g1 g2 g3
      | true =>
        cases g4 : (fitL (runes a.name 0) && isSet (-1) b.set) with
        | false => exact laws_cb a b y A A' n c n' c' w hnm h h' hn hn' ha hT g1 g2 g3 g4
        | true => exact laws_main a b y A A' n c n' c' w hnm h h' hn hn' ha hT g1 g2 g3 g4
end Go.Proofs.YtgmkagddfbfolaaDoor.Term

/-
  Some texts of this claim, one behind the other: ClashDoesW, ClashTold, ClashShow. What each proves, and its condition, stands at its head.
-/
import Derived.Test.YtckioihkknhfpaaGreatDoorY32
import Derived.Test.YtckioihkknhfpaaGreatDoorY33
import Derived.Test.YtckioihkknhfpaaGreatDoorY34
import Derived.Laws.Cover1
import Derived.Test.YtckioihkknhfpaaGreatDoorY27
import Derived.Test.YtckioihkknhfpaaGreatDoorY28
/-
  The walk of ClashDoes, if the program's functions tell what they have to. Condition: those premises; the slices read as terms and picks; lengths as a row bounds them; the tables hold what the texts lay in them.
-/
namespace Go.Proofs.YtckioihkknhfpaaGreatDoor.Clash
open Go Go.RowKit Go.Lib Go.Proofs.YtckioihkknhfpaaGreatDoor.Span Go.Proofs.YtckioihkknhfpaaGreatDoor.Need Go.Proofs.YtckioihkknhfpaaGreatDoor.Grow Go.Proofs.YtckioihkknhfpaaGreatDoor.Term
open Go.Proofs.YtckioihkknhfpaaGreatDoor.Label (runes fitL)
open Go.Proofs.YtckioihkknhfpaaGreatDoor.Pick (Pk PkOn getP okP largeP largeP_any largeP_no refCheckP_any)
open Go.Proofs.YtckioihkknhfpaaGreatDoor.Ver (Tabs)
set_option linter.unusedVariables false
theorem call_ex {f : FuncId} {args : Array Value} {w : World} {c : Value} (h : Calls Tryz.prog f args w fun e w' => e = .returned c ∧ w' = w) : Calls Tryz.prog f args w fun e w' => e = .returned c ∧ Below w.heap.size w w' :=
  h.mono fun _ _ ⟨he, hw⟩ => ⟨he, by rw [hw]; exact Below.refl _ _⟩
set_option maxHeartbeats 8000000 in
set_option maxRecDepth 100000 in
theorem does_la (SJ : SpecJoinC) (SS : SpecShowC) (SF : SpecFindC) (SH : SpecHoldsC) (a b : List Tm) (k : List Pk) (nm : ByteArray) (A A' Ak : Option Addr) (n c n' c' nk ck : Nat) (w : World) (h : TmOn w A n a) (h' : TmOn w A' n' b) (hk : PkOn w Ak nk k)
    (hn : n ≤ 9223372036854775807) (hn' : n' ≤ 9223372036854775807) (hnk : nk ≤ 9223372036854775807) (ha : ∀ t ∈ a, t.name.size ≤ 9223372036854775807 ∧ t.set.length ≤ 9223372036854775807) (hb : ∀ t ∈ b, t.name.size ≤ 9223372036854775807 ∧ t.set.length ≤ 9223372036854775807) (hnm : nm.size ≤ 9223372036854775807) (hT : Tabs w)
    (g1 : largeC a = true) :
    Calls Tryz.prog 4 #[.slice A n c, .slice A' n' c', .agg #[.string nm, .slice Ak nk ck]] w fun e w' => e = .returned (.bool true) ∧ Below w.heap.size w w' := by
  have HLA : Hid (∀ wx, Below w.heap.size w wx → Calls Tryz.prog 6 #[.slice A n c] wx fun e w' => e = .returned (.bool true) ∧ Below wx.heap.size wx w') := hide (fun wx hbx => by
    have := largeC_any a A n c wx (h.on hbx) hn ha; rw [g1] at this
    exact this)
  have HW : Hid (∀ wx, Below w.heap.size w wx → Calls Tryz.prog 7 #[] wx fun e w' => e = .returned (.bool true) ∧ Below wx.heap.size wx w') := hide (fun wx hbx => by
    have := awakeC_any SJ SS wx (hT.below hbx)
    exact this)
  clear h h' hk hn hn' hnk ha hb hnm hT SJ SS SF SH g1
  obtain ⟨W, hW⟩ : ∃ W, W = w.alloc (.cells #[.string nm, .slice Ak nk ck] 36) := ⟨_, rfl⟩
  have hbw : Below w.heap.size w W := by rw [hW]; exact alloc_b _
  have bk : Blk W w.heap.size 36 #[.string nm, .slice Ak nk ck] := by rw [hW]; exact Blk.new _ _ _
  have k0 := bk.cell 0
  have k1 := bk.cell 1
  go_enter Tryz.func4, Tryz.ntmps4
  go_upto_region 1 with fail
  try rw [← hW]
  clear hW
  go_wp2_with (first
    | (go_at_call 7
       refine (HW.out _ hbw).mono ?_
       rintro e wn ⟨rfl, hbx⟩
       have hbw := hbw.trans (hbx.mono hbw.size)
       have bk := bk.below hbx bk.lt
       have k0 := bk.cell 0
       have k1 := bk.cell 1)
    | (go_at_call 6
       refine (HLA.out _ hbw).mono ?_
       rintro e wn ⟨rfl, hbx⟩
       have hbw := hbw.trans (hbx.mono hbw.size)
       have bk := bk.below hbx bk.lt
       have k0 := bk.cell 0
       have k1 := bk.cell 1
       have hla := True.intro))
  go_ret
  exact ⟨rfl, hbw⟩
set_option maxHeartbeats 8000000 in
set_option maxRecDepth 100000 in
theorem does_lb (SJ : SpecJoinC) (SS : SpecShowC) (SF : SpecFindC) (SH : SpecHoldsC) (a b : List Tm) (k : List Pk) (nm : ByteArray) (A A' Ak : Option Addr) (n c n' c' nk ck : Nat) (w : World) (h : TmOn w A n a) (h' : TmOn w A' n' b) (hk : PkOn w Ak nk k)
    (hn : n ≤ 9223372036854775807) (hn' : n' ≤ 9223372036854775807) (hnk : nk ≤ 9223372036854775807) (ha : ∀ t ∈ a, t.name.size ≤ 9223372036854775807 ∧ t.set.length ≤ 9223372036854775807) (hb : ∀ t ∈ b, t.name.size ≤ 9223372036854775807 ∧ t.set.length ≤ 9223372036854775807) (hnm : nm.size ≤ 9223372036854775807) (hT : Tabs w)
    (g1 : largeC a = false) (g2 : largeC b = true) :
    Calls Tryz.prog 4 #[.slice A n c, .slice A' n' c', .agg #[.string nm, .slice Ak nk ck]] w fun e w' => e = .returned (.bool true) ∧ Below w.heap.size w w' := by
  have HLA : Hid (∀ wx, Below w.heap.size w wx → Calls Tryz.prog 6 #[.slice A n c] wx fun e w' => e = .returned (.bool false) ∧ Below wx.heap.size wx w') := hide (fun wx hbx => by
    have := largeC_any a A n c wx (h.on hbx) hn ha; rw [g1] at this
    exact this)
  have HLB : Hid (∀ wx, Below w.heap.size w wx → Calls Tryz.prog 6 #[.slice A' n' c'] wx fun e w' => e = .returned (.bool true) ∧ Below wx.heap.size wx w') := hide (fun wx hbx => by
    have := largeC_any b A' n' c' wx (h'.on hbx) hn' hb; rw [g2] at this
    exact this)
  have HW : Hid (∀ wx, Below w.heap.size w wx → Calls Tryz.prog 7 #[] wx fun e w' => e = .returned (.bool true) ∧ Below wx.heap.size wx w') := hide (fun wx hbx => by
    have := awakeC_any SJ SS wx (hT.below hbx)
    exact this)
  clear h h' hk hn hn' hnk ha hb hnm hT SJ SS SF SH g1 g2
  obtain ⟨W, hW⟩ : ∃ W, W = w.alloc (.cells #[.string nm, .slice Ak nk ck] 36) := ⟨_, rfl⟩
  have hbw : Below w.heap.size w W := by rw [hW]; exact alloc_b _
  have bk : Blk W w.heap.size 36 #[.string nm, .slice Ak nk ck] := by rw [hW]; exact Blk.new _ _ _
  have k0 := bk.cell 0
  have k1 := bk.cell 1
  go_enter Tryz.func4, Tryz.ntmps4
  go_upto_region 1 with fail
  try rw [← hW]
  clear hW
  go_wp2_with (first
    | (go_at_call 7
       refine (HW.out _ hbw).mono ?_
       rintro e wn ⟨rfl, hbx⟩
       have hbw := hbw.trans (hbx.mono hbw.size)
       have bk := bk.below hbx bk.lt
       have k0 := bk.cell 0
       have k1 := bk.cell 1)
    | (go_at_call 6
       have hneed := hla
       refine (HLB.out _ hbw).mono ?_
       rintro e wn ⟨rfl, hbx⟩
       have hbw := hbw.trans (hbx.mono hbw.size)
       have bk := bk.below hbx bk.lt
       have k0 := bk.cell 0
       have k1 := bk.cell 1
       have hlb := True.intro)
    | (go_at_call 6
       refine (HLA.out _ hbw).mono ?_
       rintro e wn ⟨rfl, hbx⟩
       have hbw := hbw.trans (hbx.mono hbw.size)
       have bk := bk.below hbx bk.lt
       have k0 := bk.cell 0
       have k1 := bk.cell 1
       have hla := True.intro))
  go_ret
  exact ⟨rfl, hbw⟩
set_option maxHeartbeats 8000000 in
set_option maxRecDepth 100000 in
theorem does_ca (SJ : SpecJoinC) (SS : SpecShowC) (SF : SpecFindC) (SH : SpecHoldsC) (a b : List Tm) (k : List Pk) (nm : ByteArray) (A A' Ak : Option Addr) (n c n' c' nk ck : Nat) (w : World) (h : TmOn w A n a) (h' : TmOn w A' n' b) (hk : PkOn w Ak nk k)
    (hn : n ≤ 9223372036854775807) (hn' : n' ≤ 9223372036854775807) (hnk : nk ≤ 9223372036854775807) (ha : ∀ t ∈ a, t.name.size ≤ 9223372036854775807 ∧ t.set.length ≤ 9223372036854775807) (hb : ∀ t ∈ b, t.name.size ≤ 9223372036854775807 ∧ t.set.length ≤ 9223372036854775807) (hnm : nm.size ≤ 9223372036854775807) (hT : Tabs w)
    (g1 : largeC a = false) (g2 : largeC b = false) (g3 : okC a = false) :
    Calls Tryz.prog 4 #[.slice A n c, .slice A' n' c', .agg #[.string nm, .slice Ak nk ck]] w fun e w' => e = .returned (.bool true) ∧ Below w.heap.size w w' := by
  obtain ⟨l40, hsz, hsm, hfa⟩ := smallC g1
  have hla0 := h.len
  obtain ⟨l40', hsz', hsm', hfb⟩ := smallC g2
  have hlb0 := h'.len
  have HLA : Hid (∀ wx, Below w.heap.size w wx → Calls Tryz.prog 6 #[.slice A n c] wx fun e w' => e = .returned (.bool false) ∧ Below wx.heap.size wx w') := hide (fun wx hbx => by
    have := largeC_any a A n c wx (h.on hbx) hn ha; rw [g1] at this
    exact this)
  have HLB : Hid (∀ wx, Below w.heap.size w wx → Calls Tryz.prog 6 #[.slice A' n' c'] wx fun e w' => e = .returned (.bool false) ∧ Below wx.heap.size wx w') := hide (fun wx hbx => by
    have := largeC_any b A' n' c' wx (h'.on hbx) hn' hb; rw [g2] at this
    exact this)
  have HCA : Hid (∀ wx, Below w.heap.size w wx → Calls Tryz.prog 9 #[.slice A n c] wx fun e w' => e = .returned (.bool false) ∧ Below wx.heap.size wx w') := hide (fun wx hbx => by
    have := refCheckC_any a A n c wx (h.on hbx) hfa.fine (by omega); rw [g3] at this
    exact this)
  have HW : Hid (∀ wx, Below w.heap.size w wx → Calls Tryz.prog 7 #[] wx fun e w' => e = .returned (.bool true) ∧ Below wx.heap.size wx w') := hide (fun wx hbx => by
    have := awakeC_any SJ SS wx (hT.below hbx)
    exact this)
  clear h h' hk hn hn' hnk ha hb hnm hT SJ SS SF SH g1 g2 g3 l40 hsz hsm hfa hla0 l40' hsz' hsm' hfb hlb0
  obtain ⟨W, hW⟩ : ∃ W, W = w.alloc (.cells #[.string nm, .slice Ak nk ck] 36) := ⟨_, rfl⟩
  have hbw : Below w.heap.size w W := by rw [hW]; exact alloc_b _
  have bk : Blk W w.heap.size 36 #[.string nm, .slice Ak nk ck] := by rw [hW]; exact Blk.new _ _ _
  have k0 := bk.cell 0
  have k1 := bk.cell 1
  go_enter Tryz.func4, Tryz.ntmps4
  go_upto_region 1 with fail
  try rw [← hW]
  clear hW
  go_wp2_with (first
    | (go_at_call 7
       refine (HW.out _ hbw).mono ?_
       rintro e wn ⟨rfl, hbx⟩
       have hbw := hbw.trans (hbx.mono hbw.size)
       have bk := bk.below hbx bk.lt
       have k0 := bk.cell 0
       have k1 := bk.cell 1)
    | (go_at_call 9
       refine (HCA.out _ hbw).mono ?_
       rintro e wn ⟨rfl, hbx⟩
       have hbw := hbw.trans (hbx.mono hbw.size)
       have bk := bk.below hbx bk.lt
       have k0 := bk.cell 0
       have k1 := bk.cell 1
       have hca := True.intro)
    | (go_at_call 6
       have hneed := hla
       refine (HLB.out _ hbw).mono ?_
       rintro e wn ⟨rfl, hbx⟩
       have hbw := hbw.trans (hbx.mono hbw.size)
       have bk := bk.below hbx bk.lt
       have k0 := bk.cell 0
       have k1 := bk.cell 1
       have hlb := True.intro)
    | (go_at_call 6
       refine (HLA.out _ hbw).mono ?_
       rintro e wn ⟨rfl, hbx⟩
       have hbw := hbw.trans (hbx.mono hbw.size)
       have bk := bk.below hbx bk.lt
       have k0 := bk.cell 0
       have k1 := bk.cell 1
       have hla := True.intro))
  go_ret
  exact ⟨rfl, hbw⟩
set_option maxHeartbeats 8000000 in
set_option maxRecDepth 100000 in
theorem does_cb (SJ : SpecJoinC) (SS : SpecShowC) (SF : SpecFindC) (SH : SpecHoldsC) (a b : List Tm) (k : List Pk) (nm : ByteArray) (A A' Ak : Option Addr) (n c n' c' nk ck : Nat) (w : World) (h : TmOn w A n a) (h' : TmOn w A' n' b) (hk : PkOn w Ak nk k)
    (hn : n ≤ 9223372036854775807) (hn' : n' ≤ 9223372036854775807) (hnk : nk ≤ 9223372036854775807) (ha : ∀ t ∈ a, t.name.size ≤ 9223372036854775807 ∧ t.set.length ≤ 9223372036854775807) (hb : ∀ t ∈ b, t.name.size ≤ 9223372036854775807 ∧ t.set.length ≤ 9223372036854775807) (hnm : nm.size ≤ 9223372036854775807) (hT : Tabs w)
    (g1 : largeC a = false) (g2 : largeC b = false) (g3 : okC a = true) (g4 : okC b = false) :
    Calls Tryz.prog 4 #[.slice A n c, .slice A' n' c', .agg #[.string nm, .slice Ak nk ck]] w fun e w' => e = .returned (.bool true) ∧ Below w.heap.size w w' := by
  obtain ⟨l40, hsz, hsm, hfa⟩ := smallC g1
  have hla0 := h.len
  obtain ⟨l40', hsz', hsm', hfb⟩ := smallC g2
  have hlb0 := h'.len
  have HLA : Hid (∀ wx, Below w.heap.size w wx → Calls Tryz.prog 6 #[.slice A n c] wx fun e w' => e = .returned (.bool false) ∧ Below wx.heap.size wx w') := hide (fun wx hbx => by
    have := largeC_any a A n c wx (h.on hbx) hn ha; rw [g1] at this
    exact this)
  have HLB : Hid (∀ wx, Below w.heap.size w wx → Calls Tryz.prog 6 #[.slice A' n' c'] wx fun e w' => e = .returned (.bool false) ∧ Below wx.heap.size wx w') := hide (fun wx hbx => by
    have := largeC_any b A' n' c' wx (h'.on hbx) hn' hb; rw [g2] at this
    exact this)
  have HCA : Hid (∀ wx, Below w.heap.size w wx → Calls Tryz.prog 9 #[.slice A n c] wx fun e w' => e = .returned (.bool true) ∧ Below wx.heap.size wx w') := hide (fun wx hbx => by
    have := refCheckC_any a A n c wx (h.on hbx) hfa.fine (by omega); rw [g3] at this
    exact this)
  have HCB : Hid (∀ wx, Below w.heap.size w wx → Calls Tryz.prog 9 #[.slice A' n' c'] wx fun e w' => e = .returned (.bool false) ∧ Below wx.heap.size wx w') := hide (fun wx hbx => by
    have := refCheckC_any b A' n' c' wx (h'.on hbx) hfb.fine (by omega); rw [g4] at this
    exact this)
  have HW : Hid (∀ wx, Below w.heap.size w wx → Calls Tryz.prog 7 #[] wx fun e w' => e = .returned (.bool true) ∧ Below wx.heap.size wx w') := hide (fun wx hbx => by
    have := awakeC_any SJ SS wx (hT.below hbx)
    exact this)
  clear h h' hk hn hn' hnk ha hb hnm hT SJ SS SF SH g1 g2 g3 g4 l40 hsz hsm hfa hla0 l40' hsz' hsm' hfb hlb0
  obtain ⟨W, hW⟩ : ∃ W, W = w.alloc (.cells #[.string nm, .slice Ak nk ck] 36) := ⟨_, rfl⟩
  have hbw : Below w.heap.size w W := by rw [hW]; exact alloc_b _
  have bk : Blk W w.heap.size 36 #[.string nm, .slice Ak nk ck] := by rw [hW]; exact Blk.new _ _ _
  have k0 := bk.cell 0
  have k1 := bk.cell 1
  go_enter Tryz.func4, Tryz.ntmps4
  go_upto_region 1 with fail
  try rw [← hW]
  clear hW
  go_wp2_with (first
    | (go_at_call 7
       refine (HW.out _ hbw).mono ?_
       rintro e wn ⟨rfl, hbx⟩
       have hbw := hbw.trans (hbx.mono hbw.size)
       have bk := bk.below hbx bk.lt
       have k0 := bk.cell 0
       have k1 := bk.cell 1)
    | (go_at_call 9
       have hneed := hca
       refine (HCB.out _ hbw).mono ?_
       rintro e wn ⟨rfl, hbx⟩
       have hbw := hbw.trans (hbx.mono hbw.size)
       have bk := bk.below hbx bk.lt
       have k0 := bk.cell 0
       have k1 := bk.cell 1
       have hcb := True.intro)
    | (go_at_call 9
       refine (HCA.out _ hbw).mono ?_
       rintro e wn ⟨rfl, hbx⟩
       have hbw := hbw.trans (hbx.mono hbw.size)
       have bk := bk.below hbx bk.lt
       have k0 := bk.cell 0
       have k1 := bk.cell 1
       have hca := True.intro)
    | (go_at_call 6
       have hneed := hla
       refine (HLB.out _ hbw).mono ?_
       rintro e wn ⟨rfl, hbx⟩
       have hbw := hbw.trans (hbx.mono hbw.size)
       have bk := bk.below hbx bk.lt
       have k0 := bk.cell 0
       have k1 := bk.cell 1
       have hlb := True.intro)
    | (go_at_call 6
       refine (HLA.out _ hbw).mono ?_
       rintro e wn ⟨rfl, hbx⟩
       have hbw := hbw.trans (hbx.mono hbw.size)
       have bk := bk.below hbx bk.lt
       have k0 := bk.cell 0
       have k1 := bk.cell 1
       have hla := True.intro))
  go_ret
  exact ⟨rfl, hbw⟩
set_option maxHeartbeats 8000000 in
set_option maxRecDepth 100000 in
theorem does_lp (SJ : SpecJoinC) (SS : SpecShowC) (SF : SpecFindC) (SH : SpecHoldsC) (a b : List Tm) (k : List Pk) (nm : ByteArray) (A A' Ak : Option Addr) (n c n' c' nk ck : Nat) (w : World) (h : TmOn w A n a) (h' : TmOn w A' n' b) (hk : PkOn w Ak nk k)
    (hn : n ≤ 9223372036854775807) (hn' : n' ≤ 9223372036854775807) (hnk : nk ≤ 9223372036854775807) (ha : ∀ t ∈ a, t.name.size ≤ 9223372036854775807 ∧ t.set.length ≤ 9223372036854775807) (hb : ∀ t ∈ b, t.name.size ≤ 9223372036854775807 ∧ t.set.length ≤ 9223372036854775807) (hnm : nm.size ≤ 9223372036854775807) (hT : Tabs w)
    (g1 : largeC a = false) (g2 : largeC b = false) (g3 : okC a = true) (g4 : okC b = true) (g5 : largeP k = true) :
    Calls Tryz.prog 4 #[.slice A n c, .slice A' n' c', .agg #[.string nm, .slice Ak nk ck]] w fun e w' => e = .returned (.bool true) ∧ Below w.heap.size w w' := by
  obtain ⟨l40, hsz, hsm, hfa⟩ := smallC g1
  have hla0 := h.len
  obtain ⟨l40', hsz', hsm', hfb⟩ := smallC g2
  have hlb0 := h'.len
  have HLA : Hid (∀ wx, Below w.heap.size w wx → Calls Tryz.prog 6 #[.slice A n c] wx fun e w' => e = .returned (.bool false) ∧ Below wx.heap.size wx w') := hide (fun wx hbx => by
    have := largeC_any a A n c wx (h.on hbx) hn ha; rw [g1] at this
    exact this)
  have HLB : Hid (∀ wx, Below w.heap.size w wx → Calls Tryz.prog 6 #[.slice A' n' c'] wx fun e w' => e = .returned (.bool false) ∧ Below wx.heap.size wx w') := hide (fun wx hbx => by
    have := largeC_any b A' n' c' wx (h'.on hbx) hn' hb; rw [g2] at this
    exact this)
  have HCA : Hid (∀ wx, Below w.heap.size w wx → Calls Tryz.prog 9 #[.slice A n c] wx fun e w' => e = .returned (.bool true) ∧ Below wx.heap.size wx w') := hide (fun wx hbx => by
    have := refCheckC_any a A n c wx (h.on hbx) hfa.fine (by omega); rw [g3] at this
    exact this)
  have HCB : Hid (∀ wx, Below w.heap.size w wx → Calls Tryz.prog 9 #[.slice A' n' c'] wx fun e w' => e = .returned (.bool true) ∧ Below wx.heap.size wx w') := hide (fun wx hbx => by
    have := refCheckC_any b A' n' c' wx (h'.on hbx) hfb.fine (by omega); rw [g4] at this
    exact this)
  have HLP : Hid (∀ wx, Below w.heap.size w wx → Calls Tryz.prog 17 #[.slice Ak nk ck] wx fun e w' => e = .returned (.bool true) ∧ Below wx.heap.size wx w') := hide (fun wx hbx => by
    have := call_ex (largeP_any k Ak nk ck wx (hk.on hbx) hnk); rw [g5] at this
    exact this)
  have HW : Hid (∀ wx, Below w.heap.size w wx → Calls Tryz.prog 7 #[] wx fun e w' => e = .returned (.bool true) ∧ Below wx.heap.size wx w') := hide (fun wx hbx => by
    have := awakeC_any SJ SS wx (hT.below hbx)
    exact this)
  clear h h' hk hn hn' hnk ha hb hnm hT SJ SS SF SH g1 g2 g3 g4 g5 l40 hsz hsm hfa hla0 l40' hsz' hsm' hfb hlb0
  obtain ⟨W, hW⟩ : ∃ W, W = w.alloc (.cells #[.string nm, .slice Ak nk ck] 36) := ⟨_, rfl⟩
  have hbw : Below w.heap.size w W := by rw [hW]; exact alloc_b _
  have bk : Blk W w.heap.size 36 #[.string nm, .slice Ak nk ck] := by rw [hW]; exact Blk.new _ _ _
  have k0 := bk.cell 0
  have k1 := bk.cell 1
  go_enter Tryz.func4, Tryz.ntmps4
  go_upto_region 1 with fail
  try rw [← hW]
  clear hW
  go_wp2_with (first
    | (go_at_call 7
       refine (HW.out _ hbw).mono ?_
       rintro e wn ⟨rfl, hbx⟩
       have hbw := hbw.trans (hbx.mono hbw.size)
       have bk := bk.below hbx bk.lt
       have k0 := bk.cell 0
       have k1 := bk.cell 1)
    | (go_at_call 17
       refine (HLP.out _ hbw).mono ?_
       rintro e wn ⟨rfl, hbx⟩
       have hbw := hbw.trans (hbx.mono hbw.size)
       have bk := bk.below hbx bk.lt
       have k0 := bk.cell 0
       have k1 := bk.cell 1)
    | (go_at_call 9
       have hneed := hca
       refine (HCB.out _ hbw).mono ?_
       rintro e wn ⟨rfl, hbx⟩
       have hbw := hbw.trans (hbx.mono hbw.size)
       have bk := bk.below hbx bk.lt
       have k0 := bk.cell 0
       have k1 := bk.cell 1
       have hcb := True.intro)
    | (go_at_call 9
       refine (HCA.out _ hbw).mono ?_
       rintro e wn ⟨rfl, hbx⟩
       have hbw := hbw.trans (hbx.mono hbw.size)
       have bk := bk.below hbx bk.lt
       have k0 := bk.cell 0
       have k1 := bk.cell 1
       have hca := True.intro)
    | (go_at_call 6
       have hneed := hla
       refine (HLB.out _ hbw).mono ?_
       rintro e wn ⟨rfl, hbx⟩
       have hbw := hbw.trans (hbx.mono hbw.size)
       have bk := bk.below hbx bk.lt
       have k0 := bk.cell 0
       have k1 := bk.cell 1
       have hlb := True.intro)
    | (go_at_call 6
       refine (HLA.out _ hbw).mono ?_
       rintro e wn ⟨rfl, hbx⟩
       have hbw := hbw.trans (hbx.mono hbw.size)
       have bk := bk.below hbx bk.lt
       have k0 := bk.cell 0
       have k1 := bk.cell 1
       have hla := True.intro))
  go_ret
  exact ⟨rfl, hbw⟩
set_option maxHeartbeats 8000000 in
set_option maxRecDepth 100000 in
theorem does_cp (SJ : SpecJoinC) (SS : SpecShowC) (SF : SpecFindC) (SH : SpecHoldsC) (a b : List Tm) (k : List Pk) (nm : ByteArray) (A A' Ak : Option Addr) (n c n' c' nk ck : Nat) (w : World) (h : TmOn w A n a) (h' : TmOn w A' n' b) (hk : PkOn w Ak nk k)
    (hn : n ≤ 9223372036854775807) (hn' : n' ≤ 9223372036854775807) (hnk : nk ≤ 9223372036854775807) (ha : ∀ t ∈ a, t.name.size ≤ 9223372036854775807 ∧ t.set.length ≤ 9223372036854775807) (hb : ∀ t ∈ b, t.name.size ≤ 9223372036854775807 ∧ t.set.length ≤ 9223372036854775807) (hnm : nm.size ≤ 9223372036854775807) (hT : Tabs w)
    (g1 : largeC a = false) (g2 : largeC b = false) (g3 : okC a = true) (g4 : okC b = true) (g5 : largeP k = false) (g6 : okP k = false) :
    Calls Tryz.prog 4 #[.slice A n c, .slice A' n' c', .agg #[.string nm, .slice Ak nk ck]] w fun e w' => e = .returned (.bool true) ∧ Below w.heap.size w w' := by
  obtain ⟨l40, hsz, hsm, hfa⟩ := smallC g1
  have hla0 := h.len
  obtain ⟨l40', hsz', hsm', hfb⟩ := smallC g2
  have hlb0 := h'.len
  have HLA : Hid (∀ wx, Below w.heap.size w wx → Calls Tryz.prog 6 #[.slice A n c] wx fun e w' => e = .returned (.bool false) ∧ Below wx.heap.size wx w') := hide (fun wx hbx => by
    have := largeC_any a A n c wx (h.on hbx) hn ha; rw [g1] at this
    exact this)
  have HLB : Hid (∀ wx, Below w.heap.size w wx → Calls Tryz.prog 6 #[.slice A' n' c'] wx fun e w' => e = .returned (.bool false) ∧ Below wx.heap.size wx w') := hide (fun wx hbx => by
    have := largeC_any b A' n' c' wx (h'.on hbx) hn' hb; rw [g2] at this
    exact this)
  have HCA : Hid (∀ wx, Below w.heap.size w wx → Calls Tryz.prog 9 #[.slice A n c] wx fun e w' => e = .returned (.bool true) ∧ Below wx.heap.size wx w') := hide (fun wx hbx => by
    have := refCheckC_any a A n c wx (h.on hbx) hfa.fine (by omega); rw [g3] at this
    exact this)
  have HCB : Hid (∀ wx, Below w.heap.size w wx → Calls Tryz.prog 9 #[.slice A' n' c'] wx fun e w' => e = .returned (.bool true) ∧ Below wx.heap.size wx w') := hide (fun wx hbx => by
    have := refCheckC_any b A' n' c' wx (h'.on hbx) hfb.fine (by omega); rw [g4] at this
    exact this)
  have kp := largeP_no g5
  have hlk0 := hk.len
  have HLP : Hid (∀ wx, Below w.heap.size w wx → Calls Tryz.prog 17 #[.slice Ak nk ck] wx fun e w' => e = .returned (.bool false) ∧ Below wx.heap.size wx w') := hide (fun wx hbx => by
    have := call_ex (largeP_any k Ak nk ck wx (hk.on hbx) hnk); rw [g5] at this
    exact this)
  have HCP : Hid (∀ wx, Below w.heap.size w wx → Calls Tryz.prog 18 #[.slice Ak nk ck] wx fun e w' => e = .returned (.bool false) ∧ Below wx.heap.size wx w') := hide (fun wx hbx => by
    have := refCheckP_any k Ak nk ck wx (hk.on hbx) (fun q hq => by have := kp.2 q hq; omega) (by omega); rw [g6] at this
    exact this)
  have HW : Hid (∀ wx, Below w.heap.size w wx → Calls Tryz.prog 7 #[] wx fun e w' => e = .returned (.bool true) ∧ Below wx.heap.size wx w') := hide (fun wx hbx => by
    have := awakeC_any SJ SS wx (hT.below hbx)
    exact this)
  clear h h' hk hn hn' hnk ha hb hnm hT SJ SS SF SH g1 g2 g3 g4 g5 g6 l40 hsz hsm hfa hla0 l40' hsz' hsm' hfb hlb0 kp hlk0
  obtain ⟨W, hW⟩ : ∃ W, W = w.alloc (.cells #[.string nm, .slice Ak nk ck] 36) := ⟨_, rfl⟩
  have hbw : Below w.heap.size w W := by rw [hW]; exact alloc_b _
  have bk : Blk W w.heap.size 36 #[.string nm, .slice Ak nk ck] := by rw [hW]; exact Blk.new _ _ _
  have k0 := bk.cell 0
  have k1 := bk.cell 1
  go_enter Tryz.func4, Tryz.ntmps4
  go_upto_region 1 with fail
  try rw [← hW]
  clear hW
  go_wp2_with (first
    | (go_at_call 7
       refine (HW.out _ hbw).mono ?_
       rintro e wn ⟨rfl, hbx⟩
       have hbw := hbw.trans (hbx.mono hbw.size)
       have bk := bk.below hbx bk.lt
       have k0 := bk.cell 0
       have k1 := bk.cell 1)
    | (go_at_call 18
       refine (HCP.out _ hbw).mono ?_
       rintro e wn ⟨rfl, hbx⟩
       have hbw := hbw.trans (hbx.mono hbw.size)
       have bk := bk.below hbx bk.lt
       have k0 := bk.cell 0
       have k1 := bk.cell 1)
    | (go_at_call 17
       refine (HLP.out _ hbw).mono ?_
       rintro e wn ⟨rfl, hbx⟩
       have hbw := hbw.trans (hbx.mono hbw.size)
       have bk := bk.below hbx bk.lt
       have k0 := bk.cell 0
       have k1 := bk.cell 1)
    | (go_at_call 9
       have hneed := hca
       refine (HCB.out _ hbw).mono ?_
       rintro e wn ⟨rfl, hbx⟩
       have hbw := hbw.trans (hbx.mono hbw.size)
       have bk := bk.below hbx bk.lt
       have k0 := bk.cell 0
       have k1 := bk.cell 1
       have hcb := True.intro)
    | (go_at_call 9
       refine (HCA.out _ hbw).mono ?_
       rintro e wn ⟨rfl, hbx⟩
       have hbw := hbw.trans (hbx.mono hbw.size)
       have bk := bk.below hbx bk.lt
       have k0 := bk.cell 0
       have k1 := bk.cell 1
       have hca := True.intro)
    | (go_at_call 6
       have hneed := hla
       refine (HLB.out _ hbw).mono ?_
       rintro e wn ⟨rfl, hbx⟩
       have hbw := hbw.trans (hbx.mono hbw.size)
       have bk := bk.below hbx bk.lt
       have k0 := bk.cell 0
       have k1 := bk.cell 1
       have hlb := True.intro)
    | (go_at_call 6
       refine (HLA.out _ hbw).mono ?_
       rintro e wn ⟨rfl, hbx⟩
       have hbw := hbw.trans (hbx.mono hbw.size)
       have bk := bk.below hbx bk.lt
       have k0 := bk.cell 0
       have k1 := bk.cell 1
       have hla := True.intro))
  go_ret
  exact ⟨rfl, hbw⟩
set_option maxHeartbeats 8000000 in
set_option maxRecDepth 100000 in
theorem does_nm (SJ : SpecJoinC) (SS : SpecShowC) (SF : SpecFindC) (SH : SpecHoldsC) (a b : List Tm) (k : List Pk) (nm : ByteArray) (A A' Ak : Option Addr) (n c n' c' nk ck : Nat) (w : World) (h : TmOn w A n a) (h' : TmOn w A' n' b) (hk : PkOn w Ak nk k)
    (hn : n ≤ 9223372036854775807) (hn' : n' ≤ 9223372036854775807) (hnk : nk ≤ 9223372036854775807) (ha : ∀ t ∈ a, t.name.size ≤ 9223372036854775807 ∧ t.set.length ≤ 9223372036854775807) (hb : ∀ t ∈ b, t.name.size ≤ 9223372036854775807 ∧ t.set.length ≤ 9223372036854775807) (hnm : nm.size ≤ 9223372036854775807) (hT : Tabs w)
    (g1 : largeC a = false) (g2 : largeC b = false) (g3 : okC a = true) (g4 : okC b = true) (g5 : largeP k = false) (g6 : okP k = true) (g7 : 200 < nm.size) :
    Calls Tryz.prog 4 #[.slice A n c, .slice A' n' c', .agg #[.string nm, .slice Ak nk ck]] w fun e w' => e = .returned (.bool true) ∧ Below w.heap.size w w' := by
  obtain ⟨l40, hsz, hsm, hfa⟩ := smallC g1
  have hla0 := h.len
  obtain ⟨l40', hsz', hsm', hfb⟩ := smallC g2
  have hlb0 := h'.len
  have HLA : Hid (∀ wx, Below w.heap.size w wx → Calls Tryz.prog 6 #[.slice A n c] wx fun e w' => e = .returned (.bool false) ∧ Below wx.heap.size wx w') := hide (fun wx hbx => by
    have := largeC_any a A n c wx (h.on hbx) hn ha; rw [g1] at this
    exact this)
  have HLB : Hid (∀ wx, Below w.heap.size w wx → Calls Tryz.prog 6 #[.slice A' n' c'] wx fun e w' => e = .returned (.bool false) ∧ Below wx.heap.size wx w') := hide (fun wx hbx => by
    have := largeC_any b A' n' c' wx (h'.on hbx) hn' hb; rw [g2] at this
    exact this)
  have HCA : Hid (∀ wx, Below w.heap.size w wx → Calls Tryz.prog 9 #[.slice A n c] wx fun e w' => e = .returned (.bool true) ∧ Below wx.heap.size wx w') := hide (fun wx hbx => by
    have := refCheckC_any a A n c wx (h.on hbx) hfa.fine (by omega); rw [g3] at this
    exact this)
  have HCB : Hid (∀ wx, Below w.heap.size w wx → Calls Tryz.prog 9 #[.slice A' n' c'] wx fun e w' => e = .returned (.bool true) ∧ Below wx.heap.size wx w') := hide (fun wx hbx => by
    have := refCheckC_any b A' n' c' wx (h'.on hbx) hfb.fine (by omega); rw [g4] at this
    exact this)
  have kp := largeP_no g5
  have hlk0 := hk.len
  have HLP : Hid (∀ wx, Below w.heap.size w wx → Calls Tryz.prog 17 #[.slice Ak nk ck] wx fun e w' => e = .returned (.bool false) ∧ Below wx.heap.size wx w') := hide (fun wx hbx => by
    have := call_ex (largeP_any k Ak nk ck wx (hk.on hbx) hnk); rw [g5] at this
    exact this)
  have HCP : Hid (∀ wx, Below w.heap.size w wx → Calls Tryz.prog 18 #[.slice Ak nk ck] wx fun e w' => e = .returned (.bool true) ∧ Below wx.heap.size wx w') := hide (fun wx hbx => by
    have := refCheckP_any k Ak nk ck wx (hk.on hbx) (fun q hq => by have := kp.2 q hq; omega) (by omega); rw [g6] at this
    exact this)
  have HW : Hid (∀ wx, Below w.heap.size w wx → Calls Tryz.prog 7 #[] wx fun e w' => e = .returned (.bool true) ∧ Below wx.heap.size wx w') := hide (fun wx hbx => by
    have := awakeC_any SJ SS wx (hT.below hbx)
    exact this)
  have g7z : (200 : Int) < (nm.size : Int) := by omega
  clear h h' hk hn hn' hnk ha hb hnm hT SJ SS SF SH g1 g2 g3 g4 g5 g6 l40 hsz hsm hfa hla0 l40' hsz' hsm' hfb hlb0 kp hlk0
  obtain ⟨W, hW⟩ : ∃ W, W = w.alloc (.cells #[.string nm, .slice Ak nk ck] 36) := ⟨_, rfl⟩
  have hbw : Below w.heap.size w W := by rw [hW]; exact alloc_b _
  have bk : Blk W w.heap.size 36 #[.string nm, .slice Ak nk ck] := by rw [hW]; exact Blk.new _ _ _
  have k0 := bk.cell 0
  have k1 := bk.cell 1
  go_enter Tryz.func4, Tryz.ntmps4
  go_upto_region 1 with fail
  try rw [← hW]
  clear hW
  go_wp2_with (first
    | (go_at_call 7
       refine (HW.out _ hbw).mono ?_
       rintro e wn ⟨rfl, hbx⟩
       have hbw := hbw.trans (hbx.mono hbw.size)
       have bk := bk.below hbx bk.lt
       have k0 := bk.cell 0
       have k1 := bk.cell 1)
    | (go_at_call 18
       refine (HCP.out _ hbw).mono ?_
       rintro e wn ⟨rfl, hbx⟩
       have hbw := hbw.trans (hbx.mono hbw.size)
       have bk := bk.below hbx bk.lt
       have k0 := bk.cell 0
       have k1 := bk.cell 1)
    | (go_at_call 17
       refine (HLP.out _ hbw).mono ?_
       rintro e wn ⟨rfl, hbx⟩
       have hbw := hbw.trans (hbx.mono hbw.size)
       have bk := bk.below hbx bk.lt
       have k0 := bk.cell 0
       have k1 := bk.cell 1)
    | (go_at_call 9
       have hneed := hca
       refine (HCB.out _ hbw).mono ?_
       rintro e wn ⟨rfl, hbx⟩
       have hbw := hbw.trans (hbx.mono hbw.size)
       have bk := bk.below hbx bk.lt
       have k0 := bk.cell 0
       have k1 := bk.cell 1
       have hcb := True.intro)
    | (go_at_call 9
       refine (HCA.out _ hbw).mono ?_
       rintro e wn ⟨rfl, hbx⟩
       have hbw := hbw.trans (hbx.mono hbw.size)
       have bk := bk.below hbx bk.lt
       have k0 := bk.cell 0
       have k1 := bk.cell 1
       have hca := True.intro)
    | (go_at_call 6
       have hneed := hla
       refine (HLB.out _ hbw).mono ?_
       rintro e wn ⟨rfl, hbx⟩
       have hbw := hbw.trans (hbx.mono hbw.size)
       have bk := bk.below hbx bk.lt
       have k0 := bk.cell 0
       have k1 := bk.cell 1
       have hlb := True.intro)
    | (go_at_call 6
       refine (HLA.out _ hbw).mono ?_
       rintro e wn ⟨rfl, hbx⟩
       have hbw := hbw.trans (hbx.mono hbw.size)
       have bk := bk.below hbx bk.lt
       have k0 := bk.cell 0
       have k1 := bk.cell 1
       have hla := True.intro))
  go_ret
  exact ⟨rfl, hbw⟩
set_option maxHeartbeats 8000000 in
set_option maxRecDepth 100000 in
theorem does_main (SJ : SpecJoinC) (SS : SpecShowC) (SF : SpecFindC) (SH : SpecHoldsC) (a b : List Tm) (k : List Pk) (nm : ByteArray) (A A' Ak : Option Addr) (n c n' c' nk ck : Nat) (w : World) (h : TmOn w A n a) (h' : TmOn w A' n' b) (hk : PkOn w Ak nk k)
    (hn : n ≤ 9223372036854775807) (hn' : n' ≤ 9223372036854775807) (hnk : nk ≤ 9223372036854775807) (ha : ∀ t ∈ a, t.name.size ≤ 9223372036854775807 ∧ t.set.length ≤ 9223372036854775807) (hb : ∀ t ∈ b, t.name.size ≤ 9223372036854775807 ∧ t.set.length ≤ 9223372036854775807) (hnm : nm.size ≤ 9223372036854775807) (hT : Tabs w)
    (g1 : largeC a = false) (g2 : largeC b = false) (g3 : okC a = true) (g4 : okC b = true) (g5 : largeP k = false) (g6 : okP k = true) (g7 : ¬ 200 < nm.size) :
    Calls Tryz.prog 4 #[.slice A n c, .slice A' n' c', .agg #[.string nm, .slice Ak nk ck]] w fun e w' => e = .returned (.bool true) ∧ Below w.heap.size w w' := by
  obtain ⟨l40, hsz, hsm, hfa⟩ := smallC g1
  have hla0 := h.len
  obtain ⟨l40', hsz', hsm', hfb⟩ := smallC g2
  have hlb0 := h'.len
  have HLA : Hid (∀ wx, Below w.heap.size w wx → Calls Tryz.prog 6 #[.slice A n c] wx fun e w' => e = .returned (.bool false) ∧ Below wx.heap.size wx w') := hide (fun wx hbx => by
    have := largeC_any a A n c wx (h.on hbx) hn ha; rw [g1] at this
    exact this)
  have HLB : Hid (∀ wx, Below w.heap.size w wx → Calls Tryz.prog 6 #[.slice A' n' c'] wx fun e w' => e = .returned (.bool false) ∧ Below wx.heap.size wx w') := hide (fun wx hbx => by
    have := largeC_any b A' n' c' wx (h'.on hbx) hn' hb; rw [g2] at this
    exact this)
  have HCA : Hid (∀ wx, Below w.heap.size w wx → Calls Tryz.prog 9 #[.slice A n c] wx fun e w' => e = .returned (.bool true) ∧ Below wx.heap.size wx w') := hide (fun wx hbx => by
    have := refCheckC_any a A n c wx (h.on hbx) hfa.fine (by omega); rw [g3] at this
    exact this)
  have HCB : Hid (∀ wx, Below w.heap.size w wx → Calls Tryz.prog 9 #[.slice A' n' c'] wx fun e w' => e = .returned (.bool true) ∧ Below wx.heap.size wx w') := hide (fun wx hbx => by
    have := refCheckC_any b A' n' c' wx (h'.on hbx) hfb.fine (by omega); rw [g4] at this
    exact this)
  have kp := largeP_no g5
  have hlk0 := hk.len
  have HLP : Hid (∀ wx, Below w.heap.size w wx → Calls Tryz.prog 17 #[.slice Ak nk ck] wx fun e w' => e = .returned (.bool false) ∧ Below wx.heap.size wx w') := hide (fun wx hbx => by
    have := call_ex (largeP_any k Ak nk ck wx (hk.on hbx) hnk); rw [g5] at this
    exact this)
  have HCP : Hid (∀ wx, Below w.heap.size w wx → Calls Tryz.prog 18 #[.slice Ak nk ck] wx fun e w' => e = .returned (.bool true) ∧ Below wx.heap.size wx w') := hide (fun wx hbx => by
    have := refCheckP_any k Ak nk ck wx (hk.on hbx) (fun q hq => by have := kp.2 q hq; omega) (by omega); rw [g6] at this
    exact this)
  have HW : Hid (∀ wx, Below w.heap.size w wx → Calls Tryz.prog 7 #[] wx fun e w' => e = .returned (.bool true) ∧ Below wx.heap.size wx w') := hide (fun wx hbx => by
    have := awakeC_any SJ SS wx (hT.below hbx)
    exact this)
  have g7z : ¬ (200 : Int) < (nm.size : Int) := by omega
  have oa := (okC_iff.1 g3).2
  have ob := (okC_iff.1 g4).2
  have HF : Hid (∀ wx, Below w.heap.size w wx → Calls Tryz.prog 19 #[.slice A n c, .string nm] wx fun e w' => ∃ A n c, e = .returned (.tuple #[.agg #[.string (foundC a nm).name, .slice A n c, .bool (foundC a nm).none], .bool (findC a nm).isSome]) ∧ SpOn w' A n (foundC a nm).set ∧ Below wx.heap.size wx w') := hide (fun wx hbx => by
    have := SF a nm A n c wx (h.on hbx) hfa g3 (by omega)
    unfold FindsT at this
    exact this)
  have HRF : Hid (∀ wx, Below w.heap.size w wx → Calls Tryz.prog 20 #[.slice A n c, .string nm] wx fun e w' => ∃ A n c, e = .returned (.tuple #[.agg #[.string (foundC a nm).name, .slice A n c, .bool (foundC a nm).none], .bool (findC a nm).isSome]) ∧ SpOn w' A n (foundC a nm).set ∧ Below wx.heap.size wx w') := hide (fun wx hbx => by
    have := refFindC_any a nm A n c wx (h.on hbx) (by omega)
    unfold FindsT at this
    exact this)
  have HJ : Hid (∀ wx, Below w.heap.size w wx → Calls Tryz.prog 21 #[.slice A n c, .slice A' n' c', .string nm] wx fun e w' => ∃ A n c, e = .returned (.tuple #[.slice A n c, .bool (joinC a b nm).isSome]) ∧ TmOn w' A n ((joinC a b nm).getD []) ∧ Below wx.heap.size wx w') := hide (fun wx hbx => by
    have := SJ a b nm A A' n c n' c' wx (h.on hbx) (h'.on hbx) hfa hfb g3 g4 (by omega) (by omega) (by omega)
    unfold MakesC at this
    exact this)
  have HRJ : Hid (∀ wx, Below w.heap.size w wx → Calls Tryz.prog 22 #[.slice A n c, .slice A' n' c', .string nm] wx fun e w' => ∃ A n c, e = .returned (.tuple #[.slice A n c, .bool (joinC a b nm).isSome]) ∧ TmOn w' A n ((joinC a b nm).getD []) ∧ Below wx.heap.size wx w') := hide (fun wx hbx => by
    have := refJoinC_any a b nm A A' n c n' c' wx (h.on hbx) (h'.on hbx) (fun t ht => (oa t ht).1) (fun t ht => (ob t ht).1) (by omega) (by omega)
    unfold MakesC at this
    exact this)
  have HH : Hid (∀ wx, Below w.heap.size w wx → Calls Tryz.prog 24 #[.slice A n c, .slice Ak nk ck] wx fun e w' => e = .returned (.bool (holdsC (getP k) a)) ∧ Below wx.heap.size wx w') := hide (fun wx hbx => by
    have := SH a k A Ak n c nk ck wx (h.on hbx) (hk.on hbx) hfa g3 g6 (by omega)
    exact this)
  have HRH : Hid (∀ wx, Below w.heap.size w wx → Calls Tryz.prog 25 #[.slice A n c, .slice Ak nk ck] wx fun e w' => e = .returned (.bool (holdsC (getP k) a)) ∧ Below wx.heap.size wx w') := hide (fun wx hbx => by
    have := refHoldsC_any a k A Ak n c nk ck wx (h.on hbx) (hk.on hbx) (fun t ht => okT_set (oa t ht).1) (by omega) (by omega)
    exact this)
  have hfl : (foundC a nm).set.length ≤ 1000000001 := by
    unfold foundC
    cases g : findC a nm with
    | none => exact (show (1 : Nat) ≤ 1000000001 by omega)
    | some x =>
      have := (hsz x (find_name g).1).1
      show x.set.length ≤ _
      omega
  have hjl : ShortT ((joinC a b nm).getD []) := fun t ht => by
    cases g : joinC a b nm with
    | none => rw [g] at ht; cases ht
    | some m =>
      rw [g] at ht
      exact len_le (okT_set (((join_sound (okC_iff.1 g3) (okC_iff.1 g4) g).1.2 t ht).1))
  have hjn : ((joinC a b nm).getD []).length ≤ 100000 := by
    unfold joinC
    split
    · unfold makeC
      split
      · simp
      · rename_i x y _ _ _
        show ((putsC (joinT x y :: dropC a nm ++ dropC b nm)).filter _).length ≤ 100000
        have h1 := List.length_filter_le (fun t => !fullT t) (putsC (joinT x y :: dropC a nm ++ dropC b nm))
        have h2 := puts_length (joinT x y :: dropC a nm ++ dropC b nm) _ (Nat.le_refl _)
        rw [List.take_length] at h2
        have h3 : (dropC a nm).length ≤ a.length := List.length_filter_le _ _
        have h4 : (dropC b nm).length ≤ b.length := List.length_filter_le _ _
        simp only [List.length_append, List.length_cons] at h2
        omega
    · simp
  have HXY : Hid (∀ wx A1 n1 c1 A2 n2 c2, SpOn wx A1 n1 (foundC a nm).set → SpOn wx A2 n2 (foundC a nm).set → Calls Tryz.prog 23 #[.agg #[.string (foundC a nm).name, .slice A1 n1 c1, .bool (foundC a nm).none], .agg #[.string (foundC a nm).name, .slice A2 n2 c2, .bool (foundC a nm).none]] wx fun e w' => e = .returned (.bool true) ∧ Below wx.heap.size wx w') := hide (fun wx A1 n1 c1 A2 n2 c2 x1 x2 => by
    have := refSameT_any (foundC a nm).name (foundC a nm).name (foundC a nm).set (foundC a nm).set (foundC a nm).none (foundC a nm).none A1 A2 n1 c1 n2 c2 wx x1 x2 (by have := x1.len; omega) (by have := x2.len; omega)
    rw [same_true] at this
    unfold Tells at this
    exact this)
  have HSS : Hid (∀ wx A1 n1 c1 A2 n2 c2, TmOn wx A1 n1 ((joinC a b nm).getD []) → TmOn wx A2 n2 ((joinC a b nm).getD []) → Calls Tryz.prog 11 #[.slice A1 n1 c1, .slice A2 n2 c2] wx fun e w' => e = .returned (.bool true) ∧ Below wx.heap.size wx w') := hide (fun wx A1 n1 c1 A2 n2 c2 x1 x2 => by
    have := refSameC_any _ _ A1 A2 n1 c1 n2 c2 wx x1 x2 hjl hjl (by have := x1.len; omega)
    rw [decide_eq_true rfl] at this
    exact this)
  generalize foundC a nm = X at *
  generalize (findC a nm).isSome = q1 at *
  generalize (joinC a b nm).isSome = q2 at *
  generalize (joinC a b nm).getD [] = L at *
  generalize holdsC (getP k) a = q3 at *
  have e1 : (q1 == q1) = true := beq_self_eq_true q1
  have e2 : (q2 == q2) = true := beq_self_eq_true q2
  have e3 : (q3 == q3) = true := beq_self_eq_true q3
  clear h h' hk hn hn' hnk ha hb hnm hT SJ SS SF SH g1 g2 g3 g4 g5 g6 l40 hsz hsm hfa hla0 l40' hsz' hsm' hfb hlb0 kp hlk0 oa ob hfl hjl hjn
  obtain ⟨W, hW⟩ : ∃ W, W = w.alloc (.cells #[.string nm, .slice Ak nk ck] 36) := ⟨_, rfl⟩
  have hbw : Below w.heap.size w W := by rw [hW]; exact alloc_b _
  have bk : Blk W w.heap.size 36 #[.string nm, .slice Ak nk ck] := by rw [hW]; exact Blk.new _ _ _
  have k0 := bk.cell 0
  have k1 := bk.cell 1
  go_enter Tryz.func4, Tryz.ntmps4
  go_upto_region 1 with fail
  try rw [← hW]
  clear hW
  go_upto_region 3 with (first
    | (go_at_call 18
       refine (HCP.out _ hbw).mono ?_
       rintro e wn ⟨rfl, hbx⟩
       have hbw := hbw.trans (hbx.mono hbw.size)
       have bk := bk.below hbx bk.lt
       have k0 := bk.cell 0
       have k1 := bk.cell 1)
    | (go_at_call 17
       refine (HLP.out _ hbw).mono ?_
       rintro e wn ⟨rfl, hbx⟩
       have hbw := hbw.trans (hbx.mono hbw.size)
       have bk := bk.below hbx bk.lt
       have k0 := bk.cell 0
       have k1 := bk.cell 1)
    | (go_at_call 9
       have hneed := hca
       refine (HCB.out _ hbw).mono ?_
       rintro e wn ⟨rfl, hbx⟩
       have hbw := hbw.trans (hbx.mono hbw.size)
       have bk := bk.below hbx bk.lt
       have k0 := bk.cell 0
       have k1 := bk.cell 1
       have hcb := True.intro)
    | (go_at_call 9
       refine (HCA.out _ hbw).mono ?_
       rintro e wn ⟨rfl, hbx⟩
       have hbw := hbw.trans (hbx.mono hbw.size)
       have bk := bk.below hbx bk.lt
       have k0 := bk.cell 0
       have k1 := bk.cell 1
       have hca := True.intro)
    | (go_at_call 6
       have hneed := hla
       refine (HLB.out _ hbw).mono ?_
       rintro e wn ⟨rfl, hbx⟩
       have hbw := hbw.trans (hbx.mono hbw.size)
       have bk := bk.below hbx bk.lt
       have k0 := bk.cell 0
       have k1 := bk.cell 1
       have hlb := True.intro)
    | (go_at_call 6
       refine (HLA.out _ hbw).mono ?_
       rintro e wn ⟨rfl, hbx⟩
       have hbw := hbw.trans (hbx.mono hbw.size)
       have bk := bk.below hbx bk.lt
       have k0 := bk.cell 0
       have k1 := bk.cell 1
       have hla := True.intro))
  clear HLA HLB HCA HCB HLP HCP
  go_upto_region 5 with (first
    | (go_at_call 20
       refine (HRF.out _ hbw1).mono ?_
       rintro e w2 ⟨A2, n2, c2, rfl, x2, hbx⟩
       have hbw2 := (hbw1.trans (hbx.mono hbw1.size)).alloc (hbw1.trans (hbx.mono hbw1.size)).size (.cells #[.string X.name, .slice A2 n2 c2, .bool X.none] 30)
       have bk2 := (bk1.below hbx bk1.lt).alloc (.cells #[.string X.name, .slice A2 n2 c2, .bool X.none] 30)
       have k0 := bk2.cell 0
       have k1 := bk2.cell 1
       have y2 := (y1.on hbx).on (alloc_b (.cells #[.string X.name, .slice A2 n2 c2, .bool X.none] 30))
       have z2 := x2.on (alloc_b (.cells #[.string X.name, .slice A2 n2 c2, .bool X.none] 30))
       have bx2 := (bx.below hbx bx.lt).alloc (.cells #[.string X.name, .slice A2 n2 c2, .bool X.none] 30)
       have by2 := Blk.new w2 30 #[.string X.name, .slice A2 n2 c2, .bool X.none])
    | (go_at_call 19
       refine (HF.out _ hbw).mono ?_
       rintro e w1 ⟨A1, n1, c1, rfl, x1, hbx⟩
       have hbw1 := (hbw.trans (hbx.mono hbw.size)).alloc (hbw.trans (hbx.mono hbw.size)).size (.cells #[.string X.name, .slice A1 n1 c1, .bool X.none] 30)
       have bk1 := (bk.below hbx bk.lt).alloc (.cells #[.string X.name, .slice A1 n1 c1, .bool X.none] 30)
       have k0 := bk1.cell 0
       have k1 := bk1.cell 1
       have y1 := x1.on (alloc_b (.cells #[.string X.name, .slice A1 n1 c1, .bool X.none] 30))
       have bx := Blk.new w1 30 #[.string X.name, .slice A1 n1 c1, .bool X.none]))
  obtain ⟨W3, hW3⟩ : ∃ W3, W3 = w2.alloc (.cells #[.string X.name, .slice A2 n2 c2, .bool X.none] 30) := ⟨_, rfl⟩
  obtain ⟨gx, hgx⟩ : ∃ g, g = w1.heap.size := ⟨_, rfl⟩
  obtain ⟨gy, hgy⟩ : ∃ g, g = w2.heap.size := ⟨_, rfl⟩
  have hbw : Below w.heap.size w W3 := by rw [hW3]; exact hbw2
  have bk : Blk W3 w.heap.size 36 #[.string nm, .slice Ak nk ck] := by rw [hW3]; exact bk2
  have X1 : SpOn W3 A1 n1 X.set := by rw [hW3]; exact y2
  have X2 : SpOn W3 A2 n2 X.set := by rw [hW3]; exact z2
  have bX : Blk W3 gx 30 #[.string X.name, .slice A1 n1 c1, .bool X.none] := by rw [hW3, hgx]; exact bx2
  have bY : Blk W3 gy 30 #[.string X.name, .slice A2 n2 c2, .bool X.none] := by rw [hW3, hgy]; exact by2
  try rw [← hgx]
  try rw [← hgy]
  try rw [← hW3]
  clear hW3 hgx hgy hbw1 hbw2 bk1 bk2 y1 y2 z2 x1 x2 bx bx2 by2 k0 k1 HF HRF
  have k0 := bk.cell 0
  have k1 := bk.cell 1
  go_upto_region 7 with (first
    | (go_at_call 22
       refine (HRJ.out _ hbw).mono ?_
       rintro e w4 ⟨A4, n4, c4, rfl, x4, hbx⟩
       have x3 := x3.on hbx
       have hbw := hbw.trans (hbx.mono hbw.size)
       have bk := bk.below hbx bk.lt
       have X1 := X1.on hbx
       have X2 := X2.on hbx
       have bX := bX.below hbx bX.lt
       have bY := bY.below hbx bY.lt)
    | (go_at_call 21
       refine (HJ.out _ hbw).mono ?_
       rintro e w3 ⟨A3, n3, c3, rfl, x3, hbx⟩
       have hbw := hbw.trans (hbx.mono hbw.size)
       have bk := bk.below hbx bk.lt
       have k0 := bk.cell 0
       have k1 := bk.cell 1
       have X1 := X1.on hbx
       have X2 := X2.on hbx
       have bX := bX.below hbx bX.lt
       have bY := bY.below hbx bY.lt))
  have qc0 := cell_reg_ ((bX.cell 0).trans (show (#[.string X.name, .slice A1 n1 c1, .bool X.none] : Array Value)[0]? = some (.string X.name) from rfl)) bX.lt
  have qc1 := cell_reg_ ((bX.cell 1).trans (show (#[.string X.name, .slice A1 n1 c1, .bool X.none] : Array Value)[1]? = some (.slice A1 n1 c1) from rfl)) bX.lt
  have qc2 := cell_reg_ ((bX.cell 2).trans (show (#[.string X.name, .slice A1 n1 c1, .bool X.none] : Array Value)[2]? = some (.bool X.none) from rfl)) bX.lt
  have qc3 := cell_reg_ ((bY.cell 0).trans (show (#[.string X.name, .slice A2 n2 c2, .bool X.none] : Array Value)[0]? = some (.string X.name) from rfl)) bY.lt
  have qc4 := cell_reg_ ((bY.cell 1).trans (show (#[.string X.name, .slice A2 n2 c2, .bool X.none] : Array Value)[1]? = some (.slice A2 n2 c2) from rfl)) bY.lt
  have qc5 := cell_reg_ ((bY.cell 2).trans (show (#[.string X.name, .slice A2 n2 c2, .bool X.none] : Array Value)[2]? = some (.bool X.none) from rfl)) bY.lt
  have qc6 := cell_reg_ ((bk.cell 0).trans (show (#[.string nm, .slice Ak nk ck] : Array Value)[0]? = some (.string nm) from rfl)) bk.lt
  have qc7 := cell_reg_ ((bk.cell 1).trans (show (#[.string nm, .slice Ak nk ck] : Array Value)[1]? = some (.slice Ak nk ck) from rfl)) bk.lt
  have hbs := hbw.size
  have up := hide (fun (wx : World) (hx : Below _ _ wx) => hbw.trans (hx.mono hbs))
  refine wp_region_grow [(81, isC (.bool true)), (90, isC (.bool true)), (101, isC (.bool q3)), (105, isC (.bool q3)), (109, isC (.bool true))] [81, 90, 101, 105, 109]
    (by kernel_rfl) (by kernel_rfl) rfl (by kernel_rfl) (by kernel_rfl) ⟨isC_stable _, isC_stable _, isC_stable _, isC_stable _, isC_stable _, trivial⟩ ?_
  repeat (first
    | (refine lex_skip rfl ?_; simp only [Act.put, List.setIfInBounds_toArray, List.set_cons_zero, List.set_cons_succ])
    | (refine lex_quiet rfl rfl rfl (fun K hK => ?_); unfold Reg; go_big_quiet_op; refine hK _ ?_; clear hK K))
  refine lex_rel rfl rfl (fun w' hb9 hK => ?_) (fun v w' hb9 hv => ?_)
  · clear hK
    unfold grows
    go_simp
    go_at_call 23
    exact call_isC (HXY.out w' _ _ _ _ _ _ (X1.on hb9) (X2.on hb9))
  obtain rfl := hv
  simp only [Act.put, List.setIfInBounds_toArray, List.set_cons_zero, List.set_cons_succ]
  repeat (first
    | (refine lex_skip rfl ?_; simp only [Act.put, List.setIfInBounds_toArray, List.set_cons_zero, List.set_cons_succ])
    | (refine lex_quiet rfl rfl rfl (fun K hK => ?_); unfold Reg; go_big_quiet_op; refine hK _ ?_; clear hK K))
  refine lex_rel rfl rfl (fun w' hb9 hK => ?_) (fun v w' hb9 hv => ?_)
  · clear hK
    unfold grows
    go_simp
    go_at_call 11
    exact call_isC (HSS.out w' _ _ _ _ _ _ (x3.on hb9) (x4.on hb9))
  obtain rfl := hv
  simp only [Act.put, List.setIfInBounds_toArray, List.set_cons_zero, List.set_cons_succ]
  repeat (first
    | (refine lex_skip rfl ?_; simp only [Act.put, List.setIfInBounds_toArray, List.set_cons_zero, List.set_cons_succ])
    | (refine lex_quiet rfl rfl rfl (fun K hK => ?_); unfold Reg; go_big_quiet_op; refine hK _ ?_; clear hK K))
  refine lex_rel rfl rfl (fun w' hb9 hK => ?_) (fun v w' hb9 hv => ?_)
  · clear hK
    unfold grows
    go_simp
    go_at_call 24
    exact call_isC (HH.out w' (up.out _ hb9))
  obtain rfl := hv
  simp only [Act.put, List.setIfInBounds_toArray, List.set_cons_zero, List.set_cons_succ]
  repeat (first
    | (refine lex_skip rfl ?_; simp only [Act.put, List.setIfInBounds_toArray, List.set_cons_zero, List.set_cons_succ])
    | (refine lex_quiet rfl rfl rfl (fun K hK => ?_); unfold Reg; go_big_quiet_op; refine hK _ ?_; clear hK K))
  refine lex_rel rfl rfl (fun w' hb9 hK => ?_) (fun v w' hb9 hv => ?_)
  · clear hK
    unfold grows
    go_simp
    go_at_call 25
    exact call_isC (HRH.out w' (up.out _ hb9))
  obtain rfl := hv
  simp only [Act.put, List.setIfInBounds_toArray, List.set_cons_zero, List.set_cons_succ]
  repeat (first
    | (refine lex_skip rfl ?_; simp only [Act.put, List.setIfInBounds_toArray, List.set_cons_zero, List.set_cons_succ])
    | (refine lex_quiet rfl rfl rfl (fun K hK => ?_); unfold Reg; go_big_quiet_op; refine hK _ ?_; clear hK K))
  refine lex_rel rfl rfl (fun w' hb9 hK => ?_) (fun v w' hb9 hv => ?_)
  · clear hK
    unfold grows
    go_simp
    go_at_call 7
    exact call_isC (HW.out w' (up.out _ hb9))
  obtain rfl := hv
  simp only [Act.put, List.setIfInBounds_toArray, List.set_cons_zero, List.set_cons_succ]
  repeat (first
    | (refine lex_skip rfl ?_; simp only [Act.put, List.setIfInBounds_toArray, List.set_cons_zero, List.set_cons_succ])
    | (refine lex_quiet rfl rfl rfl (fun K hK => ?_); unfold Reg; go_big_quiet_op; refine hK _ ?_; clear hK K))
  refine lex_nil (fun w9 hC9 _ => ?_)
  have hb9 := reg_iff.1 hC9
  clear hC9
  have hbw := up.out _ hb9
  clear up qc0 qc1 qc2 qc3 qc4 qc5 qc6 qc7
  go_wp2
  go_ret
  exact ⟨rfl, hbw⟩
theorem does_walk (SJ : SpecJoinC) (SS : SpecShowC) (SF : SpecFindC) (SH : SpecHoldsC) (a b : List Tm) (k : List Pk) (nm : ByteArray) (A A' Ak : Option Addr) (n c n' c' nk ck : Nat) (w : World) (h : TmOn w A n a) (h' : TmOn w A' n' b) (hk : PkOn w Ak nk k)
    (hn : n ≤ 9223372036854775807) (hn' : n' ≤ 9223372036854775807) (hnk : nk ≤ 9223372036854775807) (ha : ∀ t ∈ a, t.name.size ≤ 9223372036854775807 ∧ t.set.length ≤ 9223372036854775807) (hb : ∀ t ∈ b, t.name.size ≤ 9223372036854775807 ∧ t.set.length ≤ 9223372036854775807) (hnm : nm.size ≤ 9223372036854775807) (hT : Tabs w) :
    Calls Tryz.prog 4 #[.slice A n c, .slice A' n' c', .agg #[.string nm, .slice Ak nk ck]] w fun e w' => e = .returned (.bool true) ∧ Below w.heap.size w w' := by
  cases g1 : largeC a with
  | true => exact does_la SJ SS SF SH a b k nm A A' Ak n c n' c' nk ck w h h' hk hn hn' hnk ha hb hnm hT g1
  | false =>
  cases g2 : largeC b with
  | true => exact does_lb SJ SS SF SH a b k nm A A' Ak n c n' c' nk ck w h h' hk hn hn' hnk ha hb hnm hT g1 g2
  | false =>
  cases g3 : okC a with
  | false => exact does_ca SJ SS SF SH a b k nm A A' Ak n c n' c' nk ck w h h' hk hn hn' hnk ha hb hnm hT g1 g2 g3
  | true =>
  cases g4 : okC b with
  | false => exact does_cb SJ SS SF SH a b k nm A A' Ak n c n' c' nk ck w h h' hk hn hn' hnk ha hb hnm hT g1 g2 g3 g4
  | true =>
  cases g5 : largeP k with
  | true => exact does_lp SJ SS SF SH a b k nm A A' Ak n c n' c' nk ck w h h' hk hn hn' hnk ha hb hnm hT g1 g2 g3 g4 g5
  | false =>
  cases g6 : okP k with
  | false => exact does_cp SJ SS SF SH a b k nm A A' Ak n c n' c' nk ck w h h' hk hn hn' hnk ha hb hnm hT g1 g2 g3 g4 g5 g6
  | true =>
  by_cases g7 : 200 < nm.size
  · exact does_nm SJ SS SF SH a b k nm A A' Ak n c n' c' nk ck w h h' hk hn hn' hnk ha hb hnm hT g1 g2 g3 g4 g5 g6 g7
  · exact does_main SJ SS SF SH a b k nm A A' Ak n c n' c' nk ck w h h' hk hn hn' hnk ha hb hnm hT g1 g2 g3 g4 g5 g6 g7
end Go.Proofs.YtckioihkknhfpaaGreatDoor.Clash
/-
  Contracts of the program's Check, Same (over the library's EqualFunc) and Holds of clashes. Condition: terms of a number, of names and of sets that may be walked.
-/
namespace Go.Proofs.YtckioihkknhfpaaGreatDoor.Clash
open Go.Proofs.YtckioihkknhfpaaGreatDoor.Pick (triP empty_lt fit_some Pk PkOn getP okP)
open Go Go.RowKit Go.Lib Go.Proofs.YtckioihkknhfpaaGreatDoor.Span Go.Proofs.YtckioihkknhfpaaGreatDoor.Need Go.Proofs.YtckioihkknhfpaaGreatDoor.Grow Go.Proofs.YtckioihkknhfpaaGreatDoor.Term
open Go.Proofs.YtckioihkknhfpaaGreatDoor.Label (runes fitL)
set_option linter.unusedVariables false
set_option maxHeartbeats 8000000 in
set_option maxRecDepth 100000 in
theorem specCheckC : SpecCheckC := by
  intro l A n c w h hl
  have hlen := h.len
  have hn : n ≤ 1000 := by rw [← hlen]; exact hl.1
  have hfi := hl.fine
  have Hd := hide (fun a i q => @okCQ_drop l a i q)
  obtain ⟨F, hF⟩ : ∃ F, F = okCQ ByteArray.empty l := ⟨_, rfl⟩
  have Hl : Hid (okC l = F) := hide hF.symm
  have HF := hide hF
  have Hlen := hide hlen
  clear hF hlen hl
  generalize okC l = L at *
  go_enter Tryz.func8, Tryz.ntmps8
  go_wp2
  go_loopw [3, 8] (fun u v wr => ∃ (i : Nat) (a : ByteArray), i ≤ n ∧ u = .string a ∧ v = .int .i64 (i : Int) ∧ Hid (F = okCQ a (l.drop i)) ∧ Below w.heap.size w wr) (fun _ v _ => n - (RowKit.intOf v).toNat)
  case atStart => exact ⟨0, ByteArray.empty, by omega, rfl, rfl, HF, Below.refl _ _⟩
  case round =>
    obtain ⟨i, a, hi, rfl, rfl, hf, hb⟩ := hrel
    have hbs := hb.size
    by_cases hlt : i < n
    · obtain ⟨ad, t, A', n', c', rfl, hbl, hx, hs, c1, c2, c3⟩ := TmIn.at_ (TmIn.below h hb) hlt
      obtain ⟨hq1, hq2⟩ := hfi t (List.mem_of_getElem? hx)
      have hsl := hs.1
      have hd := hf.out.trans (Hd.out a i t hx)
      obtain ⟨V, hV⟩ : ∃ V, V = wr.alloc (.cells #[.string t.name, .slice A' n' c', .bool t.none] 30) := ⟨_, rfl⟩
      have hbV : Below wr.heap.size wr V := by rw [hV]; exact alloc_b _
      have bt : Blk V wr.heap.size 30 #[.string t.name, .slice A' n' c', .bool t.none] := by rw [hV]; exact Blk.new _ _ _
      have hsV : SpOn V A' n' t.set := (((hs.more hbs).below hbV).more hbV.size)
      have hbw : Below w.heap.size w V := hb.trans (hbV.mono hbs)
      have hVs := hbw.size
      have HX : Hid (∀ wx, Below V.heap.size V wx → wx.cell? ⟨wr.heap.size, 0, none⟩ = some (.string t.name) ∧ wx.cell? ⟨wr.heap.size, 1, none⟩ = some (.slice A' n' c') ∧ wx.cell? ⟨wr.heap.size, 2, none⟩ = some (.bool t.none)) := hide (fun wx hbx => ⟨((bt.below hbx bt.lt).cell 0).trans rfl, ((bt.below hbx bt.lt).cell 1).trans rfl, ((bt.below hbx bt.lt).cell 2).trans rfl⟩)
      have HC : Hid (∀ wx, Below V.heap.size V wx → Calls Tryz.prog 27 #[.agg #[.string t.name, .slice A' n' c', .bool t.none]] wx fun e w' => e = .returned (.bool (okT t)) ∧ Below wx.heap.size wx w') := hide (fun wx hbx => by
        have := checkT_any t.name t.set t.none A' n' c' wx (hsV.on hbx) (by omega) (by omega)
        unfold Tells at this
        exact this)
      have HU : Hid (∀ wx, Below V.heap.size V wx → Calls Tryz.prog 28 #[.agg #[.string t.name, .slice A' n' c', .bool t.none]] wx fun e w' => e = .returned (.bool (fullT t)) ∧ Below wx.heap.size wx w') := hide (fun wx hbx => by
        have := fullT_any t.name t.set t.none A' n' c' wx (hsV.on hbx) (by omega)
        unfold Tells at this
        exact this)
      have HE : Hid (∀ wx, Below V.heap.size V wx → Calls Tryz.prog 29 #[.agg #[.string t.name, .slice A' n' c', .bool t.none]] wx fun e w' => e = .returned (.bool (emptyT t)) ∧ Below wx.heap.size wx w') := hide (fun wx hbx => by
        have := emptyT_any t.name t.set t.none A' n' c' wx (hsV.on hbx) 
        unfold Tells at this
        exact this)
      unfold inC at hd
      have Hd2 := hide hd
      have htri := triP t.name a
      obtain ⟨k0, k1, k2⟩ := HX.out _ (Below.refl _ _)
      clear hq1 hq2 hsl hd hs hsV hx hf Hd HF h hfi bt hbV
      generalize okT t = y at *
      generalize fullT t = f at *
      generalize emptyT t = m at *
      obtain ⟨nm, s, z⟩ := t
      simp only [] at c1 c2 c3 k0 k1 k2 HC HU HE HX Hd2 htri hV
      go_upto_region 5 with fail
      try rw [← hV]
      clear hV c1 c2 c3
      rcases htri with ⟨f1, f2, f3⟩ | ⟨f1, f2, f3⟩ | ⟨f1, f2, f3⟩
      · have e : Hid (F = false) := hide (by rw [Hd2.out, f2]; simp)
        clear Hd2 f2
        go_wp2
        go_ret
        exact ⟨by rw [Hl.out, e.out]; rfl, hbw⟩
      · have e : Hid (F = false) := hide (by rw [Hd2.out, f2]; simp)
        clear Hd2 f2
        go_wp2
        go_ret
        exact ⟨by rw [Hl.out, e.out]; rfl, hbw⟩
      · cases y with
        | false =>
          have e : Hid (F = false) := hide (by rw [Hd2.out]; simp)
          clear Hd2 f2
          go_wp2_with (first
            | (go_at_call 27
               refine (HC.out _ (Below.refl _ _)).mono ?_
               rintro e w1 ⟨rfl, hb1⟩
               obtain ⟨k10, k11, k12⟩ := HX.out _ hb1))
          go_ret
          exact ⟨by rw [Hl.out, e.out]; rfl, hbw.trans (hb1.mono hVs)⟩
        | true =>
        cases f with
        | true =>
          have e : Hid (F = false) := hide (by rw [Hd2.out]; simp)
          clear Hd2 f2
          go_wp2_with (first
            | (go_at_call 28
               refine (HU.out _ hb1).mono ?_
               rintro e w2 ⟨rfl, hb2x⟩
               have hb2 := hb1.trans (hb2x.mono hb1.size)
               obtain ⟨k20, k21, k22⟩ := HX.out _ hb2)
            | (go_at_call 27
               refine (HC.out _ (Below.refl _ _)).mono ?_
               rintro e w1 ⟨rfl, hb1⟩
               obtain ⟨k10, k11, k12⟩ := HX.out _ hb1))
          go_ret
          exact ⟨by rw [Hl.out, e.out]; rfl, hbw.trans (hb2.mono hVs)⟩
        | false =>
        cases m with
        | true =>
          have e : Hid (F = false) := hide (by rw [Hd2.out]; simp)
          clear Hd2 f2
          go_wp2_with (first
            | (go_at_call 29
               refine (HE.out _ hb2).mono ?_
               rintro e w3 ⟨rfl, hb3x⟩
               have hb3 := hb2.trans (hb3x.mono hb2.size)
               obtain ⟨k30, k31, k32⟩ := HX.out _ hb3)
            | (go_at_call 28
               refine (HU.out _ hb1).mono ?_
               rintro e w2 ⟨rfl, hb2x⟩
               have hb2 := hb1.trans (hb2x.mono hb1.size)
               obtain ⟨k20, k21, k22⟩ := HX.out _ hb2)
            | (go_at_call 27
               refine (HC.out _ (Below.refl _ _)).mono ?_
               rintro e w1 ⟨rfl, hb1⟩
               obtain ⟨k10, k11, k12⟩ := HX.out _ hb1))
          go_ret
          exact ⟨by rw [Hl.out, e.out]; rfl, hbw.trans (hb3.mono hVs)⟩
        | false =>
          have e : Hid (F = okCQ nm (l.drop (i + 1))) := hide (by rw [Hd2.out, f2]; rfl)
          clear Hd2 f2
          go_wp2_with (first
            | (go_at_call 29
               refine (HE.out _ hb2).mono ?_
               rintro e w3 ⟨rfl, hb3x⟩
               have hb3 := hb2.trans (hb3x.mono hb2.size)
               obtain ⟨k30, k31, k32⟩ := HX.out _ hb3)
            | (go_at_call 28
               refine (HU.out _ hb1).mono ?_
               rintro e w2 ⟨rfl, hb2x⟩
               have hb2 := hb1.trans (hb2x.mono hb1.size)
               obtain ⟨k20, k21, k22⟩ := HX.out _ hb2)
            | (go_at_call 27
               refine (HC.out _ (Below.refl _ _)).mono ?_
               rintro e w1 ⟨rfl, hb1⟩
               obtain ⟨k10, k11, k12⟩ := HX.out _ hb1))
          have hbz := hbw.trans (hb3.mono hVs)
          go_roundw
          case rel => exact ⟨i + 1, nm, by omega, rfl, by go_num, e, hbz⟩
          case measure => simp [RowKit.intOf]; omega
    · have e : Hid (F = true) := hide (by rw [hf.out, List.drop_of_length_le (by have := Hlen.out; omega)]; rfl)
      clear hf
      go_wp2
      go_ret
      exact ⟨by rw [Hl.out, e.out]; rfl, hb⟩
set_option maxHeartbeats 8000000 in
set_option maxRecDepth 100000 in
theorem specHoldsC : SpecHoldsC := by
  intro l k A Ak n c nk ck w h hk hl hok hkk hnk
  have hlen := hide h.len
  have hn : n ≤ 1000 := by rw [← h.len]; exact hl.1
  have hset : ∀ t ∈ l, isSet (-1) t.set = true := fun t ht => okT_set ((okC_iff.1 hok).2 t ht).1
  have hrp : Pick.RisesP k := (Pick.okP_iff.1 hkk).1
  have Hd := hide (fun i t => @holds_drop (getP k) l t i)
  have Hend : Hid (holdsC (getP k) (l.drop n) = true) := hide (by rw [List.drop_of_length_le (by have := hlen.out; omega)]; rfl)
  obtain ⟨F, hF⟩ : ∃ F, F = holdsC (getP k) l := ⟨_, rfl⟩
  rw [← hF]
  have HF : Hid (F = holdsC (getP k) (l.drop 0)) := hide hF
  clear hF hl hok hkk
  go_enter Tryz.func24, Tryz.ntmps24
  go_wp2
  go_loopw [11] (fun v wr => ∃ i : Nat, i ≤ n ∧ v = .int .i64 (i : Int) ∧ Hid (F = holdsC (getP k) (l.drop i)) ∧ Below w.heap.size w wr) (fun v _ => n - (RowKit.intOf v).toNat)
  case atStart => exact ⟨0, by omega, rfl, HF, Below.refl _ _⟩
  case round =>
    obtain ⟨i, hi, rfl, hf, hb⟩ := hrel
    have hbs := hb.size
    by_cases hlt : i < n
    · obtain ⟨ad, t, A', n', c', rfl, hbl, hx, hs, c1, c2, c3⟩ := TmIn.at_ (TmIn.below h hb) hlt
      have hst := hset t (List.mem_of_getElem? hx)
      have hsl := len_le hst
      have g1 := hs.1
      have hd := hf.out.trans (Hd.out i t hx)
      rw [holdsT_is] at hd
      obtain ⟨V, hV⟩ : ∃ V, V = wr.alloc (.cells #[.string t.name, .slice A' n' c', .bool t.none] 30) := ⟨_, rfl⟩
      have hbV : Below wr.heap.size wr V := by rw [hV]; exact alloc_b _
      have bt : Blk V wr.heap.size 30 #[.string t.name, .slice A' n' c', .bool t.none] := by rw [hV]; exact Blk.new _ _ _
      have hsV : SpOn V A' n' t.set := (((hs.more hbs).below hbV).more hbV.size)
      have hbw : Below w.heap.size w V := hb.trans (hbV.mono hbs)
      have hVs := hbw.size
      have dn : ∀ j, Below V.heap.size V (V.drewN j) := fun j => below_drewN (Below.refl _ _) j
      have HX : Hid (∀ wx, Below V.heap.size V wx → wx.cell? ⟨wr.heap.size, 0, none⟩ = some (.string t.name) ∧ wx.cell? ⟨wr.heap.size, 1, none⟩ = some (.slice A' n' c') ∧ wx.cell? ⟨wr.heap.size, 2, none⟩ = some (.bool t.none)) := hide (fun wx hbx => ⟨((bt.below hbx bt.lt).cell 0).trans rfl, ((bt.below hbx bt.lt).cell 1).trans rfl, ((bt.below hbx bt.lt).cell 2).trans rfl⟩)
      have HG := hide (fun (wx : World) (hbx : Below V.heap.size V wx) => Pick.get_any k t.name Ak nk ck wx (hk.on (hbw.trans (hbx.mono hVs))) hrp hnk)
      have HH : Hid (∀ wx, Below V.heap.size V wx → Calls Tryz.prog 52 #[.agg #[.string t.name, .slice A' n' c', .bool t.none], .int .i64 ((getP k t.name).getD 0), .bool (getP k t.name).isSome] wx fun e w' => e = .returned (.bool (if (getP k t.name).isSome = true then has t.set ((getP k t.name).getD 0) else t.none)) ∧ Below wx.heap.size wx w') := hide (fun wx hbx => by
        have := hasT_any t.name t.set t.none A' n' c' wx (hsV.on hbx) ((getP k t.name).getD 0) (getP k t.name).isSome (by omega) hst
        unfold Tells at this
        exact this)
      obtain ⟨k0, k1, k2⟩ := HX.out _ (Below.refl _ _)
      clear hx hs hst hsl g1 hf Hd Hend HF h hk hset hsV bt hbV
      generalize (if (getP k t.name).isSome = true then has t.set ((getP k t.name).getD 0) else t.none) = b at *
      generalize (getP k t.name).isSome = is at *
      generalize (getP k t.name).getD 0 = z at *
      go_upto_region 4 with fail
      try rw [← hV]
      clear hV c1 c2 c3
      cases b with
      | false =>
        have e : Hid (F = false) := hide (by rw [hd]; rfl)
        clear hd
        go_wp2_with (first
          | (go_at_call 51
             refine (HG.out _ (Below.refl _ _)).mono ?_
             rintro e W0 ⟨rfl, k9, rfl⟩
             obtain ⟨k10, k11, k12⟩ := HX.out (V.drewN k9) (dn k9))
          | (go_at_call 52
             refine (HH.out _ (dn k9)).mono ?_
             rintro e w1 ⟨rfl, hb1x⟩
             have hb1 := (dn k9).trans (hb1x.mono (Nat.le_refl _))))
        go_ret
        exact ⟨by rw [e.out]; rfl, hbw.trans (hb1.mono hVs)⟩
      | true =>
        have e : Hid (F = holdsC (getP k) (l.drop (i + 1))) := hide (by rw [hd]; rfl)
        clear hd
        go_wp2_with (first
          | (go_at_call 51
             refine (HG.out _ (Below.refl _ _)).mono ?_
             rintro e W0 ⟨rfl, k9, rfl⟩
             obtain ⟨k10, k11, k12⟩ := HX.out (V.drewN k9) (dn k9))
          | (go_at_call 52
             refine (HH.out _ (dn k9)).mono ?_
             rintro e w1 ⟨rfl, hb1x⟩
             have hb1 := (dn k9).trans (hb1x.mono (Nat.le_refl _))))
        go_roundw
        case rel => exact ⟨i + 1, by omega, by go_num, e, hbw.trans (hb1.mono hVs)⟩
        case measure => simp [RowKit.intOf]; omega
    · have hi2 : i = n := by omega
      have e : Hid (F = true) := hide (by rw [hf.out, hi2]; exact Hend.out)
      clear hf HF Hd Hend h
      go_wp2
      go_ret
      exact ⟨by rw [e.out]; rfl, hb⟩
end Go.Proofs.YtckioihkknhfpaaGreatDoor.Clash
/-
  The contract of the program's Show of clashes. Condition: clashes that may be, of sets of at most 1,000 spans; the tables hold what the texts lay in them.
-/
namespace Go.Proofs.YtckioihkknhfpaaGreatDoor.Clash
open Go.Shelf
open Go.Proofs.YtckioihkknhfpaaGreatDoor.Rule (laysJ extraJ info_str)
open Go.Proofs.YtckioihkknhfpaaGreatDoor.Ver (Tabs)
open Go Go.RowKit Go.Lib Go.Proofs.YtckioihkknhfpaaGreatDoor.Span Go.Proofs.YtckioihkknhfpaaGreatDoor.Need Go.Proofs.YtckioihkknhfpaaGreatDoor.Grow Go.Proofs.YtckioihkknhfpaaGreatDoor.Term
open Go.Proofs.YtckioihkknhfpaaGreatDoor.Label (runes fitL)
set_option linter.unusedVariables false
theorem bytes_str (x : ByteArray) : str x.data.toList = x := by simp [str]
theorem str_cat (a : List UInt8) (x : ByteArray) : str (a ++ x.data.toList) = str a ++ x := by rw [← bytes_str x, str_append]; simp [str]
theorem more_eq (s : List UInt8) (l : List Tm) : str (s ++ Lib.joinTail [32, 38, 32] ((l.map showT).map (·.data.toList))) = moreC (str s) l := by
  induction l generalizing s with
  | nil => simp [Lib.joinTail, moreC]
  | cons t r ih =>
    have e : moreC (str s) (t :: r) = moreC (str s ++ wAnd ++ showT t) r := rfl
    have e2 : str s ++ wAnd ++ showT t = str (s ++ [32, 38, 32] ++ (showT t).data.toList) := by
      rw [str_cat, show wAnd = str [32, 38, 32] from rfl, str_append]
    rw [e, e2, ← ih]
    simp [Lib.joinTail]
theorem join_showC {l : List Tm} (h : l ≠ []) : str (Lib.join ((l.map showT).map (·.data.toList)) [32, 38, 32]) = showC l := by
  cases l with
  | nil => exact absurd rfl h
  | cons t r =>
    rw [List.map_cons, List.map_cons, Lib.join_cons, more_eq, bytes_str]
    rfl
theorem joinC_len (l : List Tm) (h : ∀ t ∈ l, (showT t).size ≤ 300000) : (Lib.join ((l.map showT).map (·.data.toList)) [32, 38, 32]).length ≤ 300003 * l.length := by
  cases l with
  | nil => simp [Lib.join]
  | cons t r =>
    rw [List.map_cons, List.map_cons, Lib.join_cons]
    have key : ∀ m : List Tm, (∀ t ∈ m, (showT t).size ≤ 300000) → (Lib.joinTail [32, 38, 32] ((m.map showT).map (·.data.toList))).length ≤ 300003 * m.length := by
      intro m
      induction m with
      | nil => intro _; simp [Lib.joinTail]
      | cons x q ih =>
        intro hm
        have h1 := ih fun y hy => hm y (by simp [hy])
        have h2 : (showT x).data.toList.length ≤ 300000 := by rw [Array.length_toList]; exact hm x (by simp)
        unfold Lib.joinTail at *
        simp only [List.map_cons, List.flatten_cons, List.length_append, List.length_cons, List.length_nil] at *
        omega
    have h1 := key r fun y hy => h y (by simp [hy])
    have h2 : (showT t).data.toList.length ≤ 300000 := by rw [Array.length_toList]; exact h t (by simp)
    simp only [List.length_append, List.length_cons]
    omega
theorem joinC_any (g c : Nat) (l : List Tm) (w : World) (hcells : ∀ (j : Nat) q, l[j]? = some q → w.cell? ⟨g, j, none⟩ = some (.string (showT q))) (hg : g < w.heap.size) (hc : l.length ≤ c) (hl : l.length ≤ 1000) (h0 : l ≠ []) (hs : ∀ t ∈ l, (showT t).size ≤ 300000) :
    Calls Tryz.prog 35 #[.slice (some ⟨g, 0, none⟩) l.length c, .string ⟨#[32, 38, 32]⟩] w fun e w' => e = .returned (.string (showC l)) ∧ Below w.heap.size w w' := by
  have hj := joinC_len l hs
  have h := Any.strings_Join laysJ extraJ g 0 c (l.map showT) ⟨#[32, 38, 32]⟩ w (fun j x hx => by
      rw [List.getElem?_map, Option.map_eq_some_iff] at hx
      obtain ⟨s, hs, rfl⟩ := hx
      rw [Nat.zero_add]
      exact hcells j s hs) hg (by simp; omega) (by simpa using hc) (by show (Lib.join ((l.map showT).map (·.data.toList)) [32, 38, 32]).length ≤ _; omega)
  rw [List.length_map] at h
  refine h.mono ?_
  rintro e w' ⟨rfl, hb⟩
  refine ⟨?_, hb⟩
  have := join_showC h0
  unfold str at this
  rw [← this]
set_option maxHeartbeats 8000000 in
set_option maxRecDepth 100000 in
theorem specShowC : SpecShowC := by
  intro l A n c w h hl hok hset hT
  obtain ⟨i0, hi0, hz0, hz1, hz2⟩ := info_parts info_str
  have hll := h.len
  have hn : n ≤ 1000 := by rw [← hll]; exact hl.1
  have HC := hide (specCheckC l A n c w h hl)
  rw [hok] at HC
  have Hsz := hide (fun t (ht : t ∈ l) => show t.name.size ≤ 1000000000 ∧ t.set.length ≤ 1000 ∧ (showT t).size ≤ 300000 from ⟨hl.2.2 t ht, hset t ht, showT_size (hset t ht)⟩)
  clear hl hok hset
  by_cases hn00 : n = 0
  · subst hn00
    have e : l = [] := List.eq_nil_of_length_eq_zero hll
    subst e
    clear Hsz hll h
    go_enter Tryz.func12, Tryz.ntmps12
    go_wp2_with (go_at_call 8
                 refine HC.out.mono ?_
                 rintro e w3 ⟨rfl, hb3⟩)
    go_ret
    exact ⟨rfl, hb3⟩
  · have h0 : l ≠ [] := fun e => by rw [e] at hll; exact hn00 hll.symm
    have hn1 : 0 < n := by omega
    clear hn00
    have hn0 : ((n : Int) == 0) = false := by rw [beq_eq_false_iff_ne]; omega
    have hmk := run_make_rowN (P := Tryz.prog) 47 9 i0 _ Tryz.underlying47 hi0 hz0 .i64 .i64 n n (Nat.le_refl _) (by rw [hz2]; omega) (by omega)
    rw [hz1] at hmk
    obtain ⟨M, HM⟩ : ∃ M, Hid (M = madeCells (Value.string ByteArray.empty).cells (n * 1)) := ⟨_, hide rfl⟩
    rw [← HM.out] at hmk
    have HMs : Hid (M.size = n) := hide (by rw [HM.out]; simp [size_madeCells])
    have HT := hide hT
    have Hll := hide hll
    have H0 := hide h0
    clear hT hll h0
    go_enter Tryz.func12, Tryz.ntmps12
    go_wp2_with (go_at_call 8
                 refine HC.out.mono ?_
                 rintro e w3 ⟨rfl, hb13⟩
                 have hx3 := h.on hb13)
    have hx4 : TmIn w3 w3.heap.size A n l := hx3
    have hb14 : Below w3.heap.size w3 (w3.alloc (.cells M 9)) := alloc_b _
    have hbs3 := hb13.size
    have hM0 := Blk.new w3 9 M
    clear hx3 HC hmk h
    go_loopw [19] (fun x wr => ∃ (i : Nat) (cs : Array Value), i ≤ n ∧ x = .int .i64 (i : Int) ∧ Blk wr w3.heap.size 9 cs ∧ Hid (cs.size = n) ∧ Hid (∀ (k : Nat) q, k < i → l[k]? = some q → cs[k]? = some (.string (showT q))) ∧ Below w3.heap.size w3 wr) (fun x _ => n - (RowKit.intOf x).toNat)
    case atStart => exact ⟨0, M, by omega, rfl, hM0, HMs, hide (fun k s hk => absurd hk (by omega)), hb14⟩
    case round =>
      obtain ⟨i, cs, hi, rfl, hB, hcs, hall, hbq⟩ := hrel
      have hb := hb13.trans (hbq.mono hbs3)
      have hx := hx4.below hbq
      clear hM0 hx4 hb14 HMs
      by_cases hlt : i < n
      · obtain ⟨ad, q, A', n', c', rfl, hbl, hq, hs, p1, p2, p3⟩ := hx.at_ hlt
        have hcsi : i < cs.size := by rw [hcs.out]; exact hlt
        obtain ⟨hz1', hz2', _⟩ := Hsz.out q (List.mem_of_getElem? hq)
        have hbs := hb.size
        have hglt := hB.lt
        have Hall := hide (fun (k : Nat) t (hk : k < i + 1) (ht : l[k]? = some t) => show (cs.setIfInBounds i (.string (showT q)))[k]? = some (.string (showT t)) by
          by_cases hki : k = i
          · subst hki
            rw [hq] at ht
            injection ht with ht
            subst ht
            simp [hcsi]
          · rw [Array.getElem?_setIfInBounds_ne (fun e => hki e.symm)]
            exact hall.out k t (by omega) ht)
        obtain ⟨v0, hv0⟩ : ∃ v, cs[i]? = some v := ⟨_, Array.getElem?_eq_getElem hcsi⟩
        have hsl := hs.1
        obtain ⟨wq, hwq⟩ : ∃ wq, wq = wr.alloc (.cells #[.string q.name, .slice A' n' c', .bool q.none] 30) := ⟨_, rfl⟩
        have hBq : Blk wq wr.heap.size 30 #[.string q.name, .slice A' n' c', .bool q.none] := by rw [hwq]; exact Blk.new _ _ _
        have hB2 : Blk wq w3.heap.size 9 cs := by rw [hwq]; exact hB.alloc _
        have hbwq : Below wr.heap.size wr wq := by rw [hwq]; exact alloc_b _
        have Hsh := hide (showT_any q.name q.set q.none A' n' c' wq (((hs.more hbq.size).below hbwq).more hbwq.size) (by omega) hz1' (HT.out.below (hb.trans (hbwq.mono hbs))))
        unfold Tells at Hsh
        rw [show showT ⟨q.name, q.set, q.none⟩ = showT q from rfl] at Hsh
        clear hall hq hs hx hsl hz1' hz2'
        obtain ⟨nm, s, z⟩ := q
        simp only [] at p1 p2 p3 hwq hBq Hsh Hall
        generalize showT ⟨nm, s, z⟩ = sh at *
        have k0 := (hBq.cell 0).trans (show (#[Value.string nm, .slice A' n' c', .bool z] : Array Value)[0]? = some (.string nm) from rfl)
        have k1 := (hBq.cell 1).trans (show (#[Value.string nm, .slice A' n' c', .bool z] : Array Value)[1]? = some (.slice A' n' c') from rfl)
        have k2 := (hBq.cell 2).trans (show (#[Value.string nm, .slice A' n' c', .bool z] : Array Value)[2]? = some (.bool z) from rfl)
        have hi1 : (0 : Int) ≤ (i : Int) := by omega
        have hi2 : (i : Int) < (n : Int) := by omega
        have hqs := hbwq.size
        go_upto_region 9 with fail
        try rw [← hwq]
        clear hwq
        go_wp2_with (go_at_call 34
                     refine Hsh.out.mono ?_
                     rintro e w5 ⟨rfl, hb5⟩
                     have hB5 := hB2.below hb5 hB2.lt
                     have k5 := (hB5.cell i).trans hv0
                     have f5 := hB5.frozen i)
        have hb01 := (hbq.trans (hbwq.mono hbq.size)).trans (hb5.mono (Nat.le_trans hbq.size hbwq.size))
        go_roundw
        case rel => exact ⟨i + 1, cs.setIfInBounds i (.string sh), by omega, by go_num, hB5.set_ i _, hide (by simpa using hcs.out), Hall, hb01.setCell (by simp) _⟩
        case measure => simp [RowKit.intOf]; omega
      · have hin : i = n := by omega
        subst hin
        have hj := hide (joinC_any w3.heap.size i l wr (fun j s hs => by
          rw [hB.cell]
          exact hall.out j s (by rw [← Hll.out]; exact (List.getElem?_eq_some_iff.1 hs).1) hs) hB.lt (by have := Hll.out; omega) (by have := Hll.out; omega) H0.out (fun t ht => (Hsz.out t ht).2.2))
        rw [Hll.out] at hj
        clear hall hcs
        go_wp2_with (go_at_call 35
                     refine hj.out.mono ?_
                     rintro e w5 ⟨rfl, hb5⟩)
        go_ret
        exact ⟨rfl, hb.trans (hb5.mono hb.size)⟩
end Go.Proofs.YtckioihkknhfpaaGreatDoor.Clash

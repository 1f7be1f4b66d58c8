/-
  Some texts of this claim, one behind the other: ClashSoundW, ClashTold, ClashShow. What each proves, and its condition, stands at its head.
-/
import Derived.Test.YtckioihkknhfpaaGreatDoorX31
import Derived.Test.YtckioihkknhfpaaGreatDoorX32
import Derived.Test.YtckioihkknhfpaaGreatDoorX33
import Derived.Laws.Cover1
import Derived.Test.YtckioihkknhfpaaGreatDoorX26
import Derived.Test.YtckioihkknhfpaaGreatDoorX27
/-
  The walk of ClashSound, if the program's functions tell what they have to. Condition: those premises; the slices read as terms and picks; lengths as a row bounds them; the tables hold what the texts lay in them.
-/
namespace Go.Proofs.YtckioihkknhfpaaGreatDoor.Clash
open Go Go.RowKit Go.Lib Go.Proofs.YtckioihkknhfpaaGreatDoor.Span Go.Proofs.YtckioihkknhfpaaGreatDoor.Need Go.Proofs.YtckioihkknhfpaaGreatDoor.Grow Go.Proofs.YtckioihkknhfpaaGreatDoor.Term
open Go.Proofs.YtckioihkknhfpaaGreatDoor.Label (runes fitL)
open Go.Proofs.YtckioihkknhfpaaGreatDoor.Pick (Pk PkOn getP okP largeP largeP_any largeP_no refCheckP_any)
open Go.Proofs.YtckioihkknhfpaaGreatDoor.Ver (Tabs)
set_option linter.unusedVariables false
theorem call_ex2 {f : FuncId} {args : Array Value} {w : World} {c : Value} (h : Calls Tryz.prog f args w fun e w' => e = .returned c ∧ w' = w) : Calls Tryz.prog f args w fun e w' => e = .returned c ∧ Below w.heap.size w w' :=
  h.mono fun _ _ ⟨he, hw⟩ => ⟨he, by rw [hw]; exact Below.refl _ _⟩
theorem own_empty3 (w : World) (B : Nat) (e : TypeId) (hB : B ≤ w.heap.size) : (w.alloc (.cells #[] e)).ownsRow B e 3 (.slice (some ⟨w.heap.size, 0, none⟩) 0 0) 0 [] :=
  ⟨rfl, .inr ⟨w.heap.size, 0, #[], rfl, hB, heap_alloc_new w _, Nat.le_refl _, Nat.zero_le _, rfl, rfl⟩⟩
set_option maxHeartbeats 8000000 in
set_option maxRecDepth 100000 in
theorem sound_la (SJ : SpecJoinC) (SS : SpecShowC) (SC : SpecCheckC) (SM : SpecMakeC) (SH : SpecHoldsC) (a b : List Tm) (k : List Pk) (nm : ByteArray) (A A' Ak : Option Addr) (n c n' c' nk ck : Nat) (w : World) (h : TmOn w A n a) (h' : TmOn w A' n' b) (hk : PkOn w Ak nk k)
    (hn : n ≤ 9223372036854775807) (hn' : n' ≤ 9223372036854775807) (hnk : nk ≤ 9223372036854775807) (ha : ∀ t ∈ a, t.name.size ≤ 9223372036854775807 ∧ t.set.length ≤ 9223372036854775807) (hb : ∀ t ∈ b, t.name.size ≤ 9223372036854775807 ∧ t.set.length ≤ 9223372036854775807) (hnm : nm.size ≤ 9223372036854775807) (hT : Tabs w)
    (g1 : largeC a = true) :
    Calls Tryz.prog 5 #[.slice A n c, .slice A' n' c', .agg #[.string nm, .slice Ak nk ck]] w fun e w' => e = .returned (.bool true) ∧ Below w.heap.size w w' := by
  have HLA : Hid (∀ wx, Below w.heap.size w wx → Calls Tryz.prog 6 #[.slice A n c] wx fun e w' => e = .returned (.bool true) ∧ Below wx.heap.size wx w') := hide (fun wx hbx => by
    have := largeC_any a A n c wx (h.on hbx) hn ha; rw [g1] at this
    exact this)
  have HW : Hid (∀ wx, Below w.heap.size w wx → Calls Tryz.prog 7 #[] wx fun e w' => e = .returned (.bool true) ∧ Below wx.heap.size wx w') := hide (fun wx hbx => by
    have := awakeC_any SJ SS wx (hT.below hbx)
    exact this)
  clear h h' hk hn hn' hnk ha hb hnm hT SJ SS SC SM SH g1
  obtain ⟨W, hW⟩ : ∃ W, W = w.alloc (.cells #[.string nm, .slice Ak nk ck] 36) := ⟨_, rfl⟩
  have hbw : Below w.heap.size w W := by rw [hW]; exact alloc_b _
  have bk : Blk W w.heap.size 36 #[.string nm, .slice Ak nk ck] := by rw [hW]; exact Blk.new _ _ _
  have k0 := bk.cell 0
  have k1 := bk.cell 1
  go_enter Tryz.func5, Tryz.ntmps5
  go_upto_region 1 with fail
  try rw [← hW]
  clear hW
  go_wp2_with (first
    | (go_at_call 7
       refine (HW.out _ hbw).mono ?_
       rintro e wn ⟨rfl, hbx⟩
       have hbw := hbw.trans (hbx.mono hbw.size)
       have bk := bk.below hbx bk.lt
       have k0 := bk.cell 0
       have k1 := bk.cell 1)
    | (go_at_call 6
       refine (HLA.out _ hbw).mono ?_
       rintro e wn ⟨rfl, hbx⟩
       have hbw := hbw.trans (hbx.mono hbw.size)
       have bk := bk.below hbx bk.lt
       have k0 := bk.cell 0
       have k1 := bk.cell 1
       have hla := True.intro))
  go_ret
  exact ⟨rfl, hbw⟩
set_option maxHeartbeats 8000000 in
set_option maxRecDepth 100000 in
theorem sound_lb (SJ : SpecJoinC) (SS : SpecShowC) (SC : SpecCheckC) (SM : SpecMakeC) (SH : SpecHoldsC) (a b : List Tm) (k : List Pk) (nm : ByteArray) (A A' Ak : Option Addr) (n c n' c' nk ck : Nat) (w : World) (h : TmOn w A n a) (h' : TmOn w A' n' b) (hk : PkOn w Ak nk k)
    (hn : n ≤ 9223372036854775807) (hn' : n' ≤ 9223372036854775807) (hnk : nk ≤ 9223372036854775807) (ha : ∀ t ∈ a, t.name.size ≤ 9223372036854775807 ∧ t.set.length ≤ 9223372036854775807) (hb : ∀ t ∈ b, t.name.size ≤ 9223372036854775807 ∧ t.set.length ≤ 9223372036854775807) (hnm : nm.size ≤ 9223372036854775807) (hT : Tabs w)
    (g1 : largeC a = false) (g2 : largeC b = true) :
    Calls Tryz.prog 5 #[.slice A n c, .slice A' n' c', .agg #[.string nm, .slice Ak nk ck]] w fun e w' => e = .returned (.bool true) ∧ Below w.heap.size w w' := by
  have HLA : Hid (∀ wx, Below w.heap.size w wx → Calls Tryz.prog 6 #[.slice A n c] wx fun e w' => e = .returned (.bool false) ∧ Below wx.heap.size wx w') := hide (fun wx hbx => by
    have := largeC_any a A n c wx (h.on hbx) hn ha; rw [g1] at this
    exact this)
  have HLB : Hid (∀ wx, Below w.heap.size w wx → Calls Tryz.prog 6 #[.slice A' n' c'] wx fun e w' => e = .returned (.bool true) ∧ Below wx.heap.size wx w') := hide (fun wx hbx => by
    have := largeC_any b A' n' c' wx (h'.on hbx) hn' hb; rw [g2] at this
    exact this)
  have HW : Hid (∀ wx, Below w.heap.size w wx → Calls Tryz.prog 7 #[] wx fun e w' => e = .returned (.bool true) ∧ Below wx.heap.size wx w') := hide (fun wx hbx => by
    have := awakeC_any SJ SS wx (hT.below hbx)
    exact this)
  clear h h' hk hn hn' hnk ha hb hnm hT SJ SS SC SM SH g1 g2
  obtain ⟨W, hW⟩ : ∃ W, W = w.alloc (.cells #[.string nm, .slice Ak nk ck] 36) := ⟨_, rfl⟩
  have hbw : Below w.heap.size w W := by rw [hW]; exact alloc_b _
  have bk : Blk W w.heap.size 36 #[.string nm, .slice Ak nk ck] := by rw [hW]; exact Blk.new _ _ _
  have k0 := bk.cell 0
  have k1 := bk.cell 1
  go_enter Tryz.func5, Tryz.ntmps5
  go_upto_region 1 with fail
  try rw [← hW]
  clear hW
  go_wp2_with (first
    | (go_at_call 7
       refine (HW.out _ hbw).mono ?_
       rintro e wn ⟨rfl, hbx⟩
       have hbw := hbw.trans (hbx.mono hbw.size)
       have bk := bk.below hbx bk.lt
       have k0 := bk.cell 0
       have k1 := bk.cell 1)
    | (go_at_call 6
       have hneed := hla
       refine (HLB.out _ hbw).mono ?_
       rintro e wn ⟨rfl, hbx⟩
       have hbw := hbw.trans (hbx.mono hbw.size)
       have bk := bk.below hbx bk.lt
       have k0 := bk.cell 0
       have k1 := bk.cell 1
       have hlb := True.intro)
    | (go_at_call 6
       refine (HLA.out _ hbw).mono ?_
       rintro e wn ⟨rfl, hbx⟩
       have hbw := hbw.trans (hbx.mono hbw.size)
       have bk := bk.below hbx bk.lt
       have k0 := bk.cell 0
       have k1 := bk.cell 1
       have hla := True.intro))
  go_ret
  exact ⟨rfl, hbw⟩
set_option maxHeartbeats 8000000 in
set_option maxRecDepth 100000 in
theorem sound_ca (SJ : SpecJoinC) (SS : SpecShowC) (SC : SpecCheckC) (SM : SpecMakeC) (SH : SpecHoldsC) (a b : List Tm) (k : List Pk) (nm : ByteArray) (A A' Ak : Option Addr) (n c n' c' nk ck : Nat) (w : World) (h : TmOn w A n a) (h' : TmOn w A' n' b) (hk : PkOn w Ak nk k)
    (hn : n ≤ 9223372036854775807) (hn' : n' ≤ 9223372036854775807) (hnk : nk ≤ 9223372036854775807) (ha : ∀ t ∈ a, t.name.size ≤ 9223372036854775807 ∧ t.set.length ≤ 9223372036854775807) (hb : ∀ t ∈ b, t.name.size ≤ 9223372036854775807 ∧ t.set.length ≤ 9223372036854775807) (hnm : nm.size ≤ 9223372036854775807) (hT : Tabs w)
    (g1 : largeC a = false) (g2 : largeC b = false) (g3 : okC a = false) :
    Calls Tryz.prog 5 #[.slice A n c, .slice A' n' c', .agg #[.string nm, .slice Ak nk ck]] w fun e w' => e = .returned (.bool true) ∧ Below w.heap.size w w' := by
  obtain ⟨l40, hsz, hsm, hfa⟩ := smallC g1
  have hla0 := h.len
  obtain ⟨l40', hsz', hsm', hfb⟩ := smallC g2
  have hlb0 := h'.len
  have HLA : Hid (∀ wx, Below w.heap.size w wx → Calls Tryz.prog 6 #[.slice A n c] wx fun e w' => e = .returned (.bool false) ∧ Below wx.heap.size wx w') := hide (fun wx hbx => by
    have := largeC_any a A n c wx (h.on hbx) hn ha; rw [g1] at this
    exact this)
  have HLB : Hid (∀ wx, Below w.heap.size w wx → Calls Tryz.prog 6 #[.slice A' n' c'] wx fun e w' => e = .returned (.bool false) ∧ Below wx.heap.size wx w') := hide (fun wx hbx => by
    have := largeC_any b A' n' c' wx (h'.on hbx) hn' hb; rw [g2] at this
    exact this)
  have HCA : Hid (∀ wx, Below w.heap.size w wx → Calls Tryz.prog 8 #[.slice A n c] wx fun e w' => e = .returned (.bool false) ∧ Below wx.heap.size wx w') := hide (fun wx hbx => by
    have := SC a A n c wx (h.on hbx) hfa; rw [g3] at this
    exact this)
  have HW : Hid (∀ wx, Below w.heap.size w wx → Calls Tryz.prog 7 #[] wx fun e w' => e = .returned (.bool true) ∧ Below wx.heap.size wx w') := hide (fun wx hbx => by
    have := awakeC_any SJ SS wx (hT.below hbx)
    exact this)
  clear h h' hk hn hn' hnk ha hb hnm hT SJ SS SC SM SH g1 g2 g3 l40 hsz hsm hfa hla0 l40' hsz' hsm' hfb hlb0
  obtain ⟨W, hW⟩ : ∃ W, W = w.alloc (.cells #[.string nm, .slice Ak nk ck] 36) := ⟨_, rfl⟩
  have hbw : Below w.heap.size w W := by rw [hW]; exact alloc_b _
  have bk : Blk W w.heap.size 36 #[.string nm, .slice Ak nk ck] := by rw [hW]; exact Blk.new _ _ _
  have k0 := bk.cell 0
  have k1 := bk.cell 1
  go_enter Tryz.func5, Tryz.ntmps5
  go_upto_region 1 with fail
  try rw [← hW]
  clear hW
  go_wp2_with (first
    | (go_at_call 7
       refine (HW.out _ hbw).mono ?_
       rintro e wn ⟨rfl, hbx⟩
       have hbw := hbw.trans (hbx.mono hbw.size)
       have bk := bk.below hbx bk.lt
       have k0 := bk.cell 0
       have k1 := bk.cell 1)
    | (go_at_call 8
       refine (HCA.out _ hbw).mono ?_
       rintro e wn ⟨rfl, hbx⟩
       have hbw := hbw.trans (hbx.mono hbw.size)
       have bk := bk.below hbx bk.lt
       have k0 := bk.cell 0
       have k1 := bk.cell 1
       have hca := True.intro)
    | (go_at_call 6
       have hneed := hla
       refine (HLB.out _ hbw).mono ?_
       rintro e wn ⟨rfl, hbx⟩
       have hbw := hbw.trans (hbx.mono hbw.size)
       have bk := bk.below hbx bk.lt
       have k0 := bk.cell 0
       have k1 := bk.cell 1
       have hlb := True.intro)
    | (go_at_call 6
       refine (HLA.out _ hbw).mono ?_
       rintro e wn ⟨rfl, hbx⟩
       have hbw := hbw.trans (hbx.mono hbw.size)
       have bk := bk.below hbx bk.lt
       have k0 := bk.cell 0
       have k1 := bk.cell 1
       have hla := True.intro))
  go_ret
  exact ⟨rfl, hbw⟩
set_option maxHeartbeats 8000000 in
set_option maxRecDepth 100000 in
theorem sound_cb (SJ : SpecJoinC) (SS : SpecShowC) (SC : SpecCheckC) (SM : SpecMakeC) (SH : SpecHoldsC) (a b : List Tm) (k : List Pk) (nm : ByteArray) (A A' Ak : Option Addr) (n c n' c' nk ck : Nat) (w : World) (h : TmOn w A n a) (h' : TmOn w A' n' b) (hk : PkOn w Ak nk k)
    (hn : n ≤ 9223372036854775807) (hn' : n' ≤ 9223372036854775807) (hnk : nk ≤ 9223372036854775807) (ha : ∀ t ∈ a, t.name.size ≤ 9223372036854775807 ∧ t.set.length ≤ 9223372036854775807) (hb : ∀ t ∈ b, t.name.size ≤ 9223372036854775807 ∧ t.set.length ≤ 9223372036854775807) (hnm : nm.size ≤ 9223372036854775807) (hT : Tabs w)
    (g1 : largeC a = false) (g2 : largeC b = false) (g3 : okC a = true) (g4 : okC b = false) :
    Calls Tryz.prog 5 #[.slice A n c, .slice A' n' c', .agg #[.string nm, .slice Ak nk ck]] w fun e w' => e = .returned (.bool true) ∧ Below w.heap.size w w' := by
  obtain ⟨l40, hsz, hsm, hfa⟩ := smallC g1
  have hla0 := h.len
  obtain ⟨l40', hsz', hsm', hfb⟩ := smallC g2
  have hlb0 := h'.len
  have HLA : Hid (∀ wx, Below w.heap.size w wx → Calls Tryz.prog 6 #[.slice A n c] wx fun e w' => e = .returned (.bool false) ∧ Below wx.heap.size wx w') := hide (fun wx hbx => by
    have := largeC_any a A n c wx (h.on hbx) hn ha; rw [g1] at this
    exact this)
  have HLB : Hid (∀ wx, Below w.heap.size w wx → Calls Tryz.prog 6 #[.slice A' n' c'] wx fun e w' => e = .returned (.bool false) ∧ Below wx.heap.size wx w') := hide (fun wx hbx => by
    have := largeC_any b A' n' c' wx (h'.on hbx) hn' hb; rw [g2] at this
    exact this)
  have HCA : Hid (∀ wx, Below w.heap.size w wx → Calls Tryz.prog 8 #[.slice A n c] wx fun e w' => e = .returned (.bool true) ∧ Below wx.heap.size wx w') := hide (fun wx hbx => by
    have := SC a A n c wx (h.on hbx) hfa; rw [g3] at this
    exact this)
  have HCB : Hid (∀ wx, Below w.heap.size w wx → Calls Tryz.prog 8 #[.slice A' n' c'] wx fun e w' => e = .returned (.bool false) ∧ Below wx.heap.size wx w') := hide (fun wx hbx => by
    have := SC b A' n' c' wx (h'.on hbx) hfb; rw [g4] at this
    exact this)
  have HW : Hid (∀ wx, Below w.heap.size w wx → Calls Tryz.prog 7 #[] wx fun e w' => e = .returned (.bool true) ∧ Below wx.heap.size wx w') := hide (fun wx hbx => by
    have := awakeC_any SJ SS wx (hT.below hbx)
    exact this)
  clear h h' hk hn hn' hnk ha hb hnm hT SJ SS SC SM SH g1 g2 g3 g4 l40 hsz hsm hfa hla0 l40' hsz' hsm' hfb hlb0
  obtain ⟨W, hW⟩ : ∃ W, W = w.alloc (.cells #[.string nm, .slice Ak nk ck] 36) := ⟨_, rfl⟩
  have hbw : Below w.heap.size w W := by rw [hW]; exact alloc_b _
  have bk : Blk W w.heap.size 36 #[.string nm, .slice Ak nk ck] := by rw [hW]; exact Blk.new _ _ _
  have k0 := bk.cell 0
  have k1 := bk.cell 1
  go_enter Tryz.func5, Tryz.ntmps5
  go_upto_region 1 with fail
  try rw [← hW]
  clear hW
  go_wp2_with (first
    | (go_at_call 7
       refine (HW.out _ hbw).mono ?_
       rintro e wn ⟨rfl, hbx⟩
       have hbw := hbw.trans (hbx.mono hbw.size)
       have bk := bk.below hbx bk.lt
       have k0 := bk.cell 0
       have k1 := bk.cell 1)
    | (go_at_call 8
       have hneed := hca
       refine (HCB.out _ hbw).mono ?_
       rintro e wn ⟨rfl, hbx⟩
       have hbw := hbw.trans (hbx.mono hbw.size)
       have bk := bk.below hbx bk.lt
       have k0 := bk.cell 0
       have k1 := bk.cell 1
       have hcb := True.intro)
    | (go_at_call 8
       refine (HCA.out _ hbw).mono ?_
       rintro e wn ⟨rfl, hbx⟩
       have hbw := hbw.trans (hbx.mono hbw.size)
       have bk := bk.below hbx bk.lt
       have k0 := bk.cell 0
       have k1 := bk.cell 1
       have hca := True.intro)
    | (go_at_call 6
       have hneed := hla
       refine (HLB.out _ hbw).mono ?_
       rintro e wn ⟨rfl, hbx⟩
       have hbw := hbw.trans (hbx.mono hbw.size)
       have bk := bk.below hbx bk.lt
       have k0 := bk.cell 0
       have k1 := bk.cell 1
       have hlb := True.intro)
    | (go_at_call 6
       refine (HLA.out _ hbw).mono ?_
       rintro e wn ⟨rfl, hbx⟩
       have hbw := hbw.trans (hbx.mono hbw.size)
       have bk := bk.below hbx bk.lt
       have k0 := bk.cell 0
       have k1 := bk.cell 1
       have hla := True.intro))
  go_ret
  exact ⟨rfl, hbw⟩
set_option maxHeartbeats 8000000 in
set_option maxRecDepth 100000 in
theorem sound_lp (SJ : SpecJoinC) (SS : SpecShowC) (SC : SpecCheckC) (SM : SpecMakeC) (SH : SpecHoldsC) (a b : List Tm) (k : List Pk) (nm : ByteArray) (A A' Ak : Option Addr) (n c n' c' nk ck : Nat) (w : World) (h : TmOn w A n a) (h' : TmOn w A' n' b) (hk : PkOn w Ak nk k)
    (hn : n ≤ 9223372036854775807) (hn' : n' ≤ 9223372036854775807) (hnk : nk ≤ 9223372036854775807) (ha : ∀ t ∈ a, t.name.size ≤ 9223372036854775807 ∧ t.set.length ≤ 9223372036854775807) (hb : ∀ t ∈ b, t.name.size ≤ 9223372036854775807 ∧ t.set.length ≤ 9223372036854775807) (hnm : nm.size ≤ 9223372036854775807) (hT : Tabs w)
    (g1 : largeC a = false) (g2 : largeC b = false) (g3 : okC a = true) (g4 : okC b = true) (g5 : largeP k = true) :
    Calls Tryz.prog 5 #[.slice A n c, .slice A' n' c', .agg #[.string nm, .slice Ak nk ck]] w fun e w' => e = .returned (.bool true) ∧ Below w.heap.size w w' := by
  obtain ⟨l40, hsz, hsm, hfa⟩ := smallC g1
  have hla0 := h.len
  obtain ⟨l40', hsz', hsm', hfb⟩ := smallC g2
  have hlb0 := h'.len
  have HLA : Hid (∀ wx, Below w.heap.size w wx → Calls Tryz.prog 6 #[.slice A n c] wx fun e w' => e = .returned (.bool false) ∧ Below wx.heap.size wx w') := hide (fun wx hbx => by
    have := largeC_any a A n c wx (h.on hbx) hn ha; rw [g1] at this
    exact this)
  have HLB : Hid (∀ wx, Below w.heap.size w wx → Calls Tryz.prog 6 #[.slice A' n' c'] wx fun e w' => e = .returned (.bool false) ∧ Below wx.heap.size wx w') := hide (fun wx hbx => by
    have := largeC_any b A' n' c' wx (h'.on hbx) hn' hb; rw [g2] at this
    exact this)
  have HCA : Hid (∀ wx, Below w.heap.size w wx → Calls Tryz.prog 8 #[.slice A n c] wx fun e w' => e = .returned (.bool true) ∧ Below wx.heap.size wx w') := hide (fun wx hbx => by
    have := SC a A n c wx (h.on hbx) hfa; rw [g3] at this
    exact this)
  have HCB : Hid (∀ wx, Below w.heap.size w wx → Calls Tryz.prog 8 #[.slice A' n' c'] wx fun e w' => e = .returned (.bool true) ∧ Below wx.heap.size wx w') := hide (fun wx hbx => by
    have := SC b A' n' c' wx (h'.on hbx) hfb; rw [g4] at this
    exact this)
  have HLP : Hid (∀ wx, Below w.heap.size w wx → Calls Tryz.prog 17 #[.slice Ak nk ck] wx fun e w' => e = .returned (.bool true) ∧ Below wx.heap.size wx w') := hide (fun wx hbx => by
    have := call_ex2 (largeP_any k Ak nk ck wx (hk.on hbx) hnk); rw [g5] at this
    exact this)
  have HW : Hid (∀ wx, Below w.heap.size w wx → Calls Tryz.prog 7 #[] wx fun e w' => e = .returned (.bool true) ∧ Below wx.heap.size wx w') := hide (fun wx hbx => by
    have := awakeC_any SJ SS wx (hT.below hbx)
    exact this)
  clear h h' hk hn hn' hnk ha hb hnm hT SJ SS SC SM SH g1 g2 g3 g4 g5 l40 hsz hsm hfa hla0 l40' hsz' hsm' hfb hlb0
  obtain ⟨W, hW⟩ : ∃ W, W = w.alloc (.cells #[.string nm, .slice Ak nk ck] 36) := ⟨_, rfl⟩
  have hbw : Below w.heap.size w W := by rw [hW]; exact alloc_b _
  have bk : Blk W w.heap.size 36 #[.string nm, .slice Ak nk ck] := by rw [hW]; exact Blk.new _ _ _
  have k0 := bk.cell 0
  have k1 := bk.cell 1
  go_enter Tryz.func5, Tryz.ntmps5
  go_upto_region 1 with fail
  try rw [← hW]
  clear hW
  go_wp2_with (first
    | (go_at_call 7
       refine (HW.out _ hbw).mono ?_
       rintro e wn ⟨rfl, hbx⟩
       have hbw := hbw.trans (hbx.mono hbw.size)
       have bk := bk.below hbx bk.lt
       have k0 := bk.cell 0
       have k1 := bk.cell 1)
    | (go_at_call 17
       refine (HLP.out _ hbw).mono ?_
       rintro e wn ⟨rfl, hbx⟩
       have hbw := hbw.trans (hbx.mono hbw.size)
       have bk := bk.below hbx bk.lt
       have k0 := bk.cell 0
       have k1 := bk.cell 1)
    | (go_at_call 8
       have hneed := hca
       refine (HCB.out _ hbw).mono ?_
       rintro e wn ⟨rfl, hbx⟩
       have hbw := hbw.trans (hbx.mono hbw.size)
       have bk := bk.below hbx bk.lt
       have k0 := bk.cell 0
       have k1 := bk.cell 1
       have hcb := True.intro)
    | (go_at_call 8
       refine (HCA.out _ hbw).mono ?_
       rintro e wn ⟨rfl, hbx⟩
       have hbw := hbw.trans (hbx.mono hbw.size)
       have bk := bk.below hbx bk.lt
       have k0 := bk.cell 0
       have k1 := bk.cell 1
       have hca := True.intro)
    | (go_at_call 6
       have hneed := hla
       refine (HLB.out _ hbw).mono ?_
       rintro e wn ⟨rfl, hbx⟩
       have hbw := hbw.trans (hbx.mono hbw.size)
       have bk := bk.below hbx bk.lt
       have k0 := bk.cell 0
       have k1 := bk.cell 1
       have hlb := True.intro)
    | (go_at_call 6
       refine (HLA.out _ hbw).mono ?_
       rintro e wn ⟨rfl, hbx⟩
       have hbw := hbw.trans (hbx.mono hbw.size)
       have bk := bk.below hbx bk.lt
       have k0 := bk.cell 0
       have k1 := bk.cell 1
       have hla := True.intro))
  go_ret
  exact ⟨rfl, hbw⟩
set_option maxHeartbeats 8000000 in
set_option maxRecDepth 100000 in
theorem sound_cp (SJ : SpecJoinC) (SS : SpecShowC) (SC : SpecCheckC) (SM : SpecMakeC) (SH : SpecHoldsC) (a b : List Tm) (k : List Pk) (nm : ByteArray) (A A' Ak : Option Addr) (n c n' c' nk ck : Nat) (w : World) (h : TmOn w A n a) (h' : TmOn w A' n' b) (hk : PkOn w Ak nk k)
    (hn : n ≤ 9223372036854775807) (hn' : n' ≤ 9223372036854775807) (hnk : nk ≤ 9223372036854775807) (ha : ∀ t ∈ a, t.name.size ≤ 9223372036854775807 ∧ t.set.length ≤ 9223372036854775807) (hb : ∀ t ∈ b, t.name.size ≤ 9223372036854775807 ∧ t.set.length ≤ 9223372036854775807) (hnm : nm.size ≤ 9223372036854775807) (hT : Tabs w)
    (g1 : largeC a = false) (g2 : largeC b = false) (g3 : okC a = true) (g4 : okC b = true) (g5 : largeP k = false) (g6 : okP k = false) :
    Calls Tryz.prog 5 #[.slice A n c, .slice A' n' c', .agg #[.string nm, .slice Ak nk ck]] w fun e w' => e = .returned (.bool true) ∧ Below w.heap.size w w' := by
  obtain ⟨l40, hsz, hsm, hfa⟩ := smallC g1
  have hla0 := h.len
  obtain ⟨l40', hsz', hsm', hfb⟩ := smallC g2
  have hlb0 := h'.len
  have HLA : Hid (∀ wx, Below w.heap.size w wx → Calls Tryz.prog 6 #[.slice A n c] wx fun e w' => e = .returned (.bool false) ∧ Below wx.heap.size wx w') := hide (fun wx hbx => by
    have := largeC_any a A n c wx (h.on hbx) hn ha; rw [g1] at this
    exact this)
  have HLB : Hid (∀ wx, Below w.heap.size w wx → Calls Tryz.prog 6 #[.slice A' n' c'] wx fun e w' => e = .returned (.bool false) ∧ Below wx.heap.size wx w') := hide (fun wx hbx => by
    have := largeC_any b A' n' c' wx (h'.on hbx) hn' hb; rw [g2] at this
    exact this)
  have HCA : Hid (∀ wx, Below w.heap.size w wx → Calls Tryz.prog 8 #[.slice A n c] wx fun e w' => e = .returned (.bool true) ∧ Below wx.heap.size wx w') := hide (fun wx hbx => by
    have := SC a A n c wx (h.on hbx) hfa; rw [g3] at this
    exact this)
  have HCB : Hid (∀ wx, Below w.heap.size w wx → Calls Tryz.prog 8 #[.slice A' n' c'] wx fun e w' => e = .returned (.bool true) ∧ Below wx.heap.size wx w') := hide (fun wx hbx => by
    have := SC b A' n' c' wx (h'.on hbx) hfb; rw [g4] at this
    exact this)
  have kp := largeP_no g5
  have hlk0 := hk.len
  have HLP : Hid (∀ wx, Below w.heap.size w wx → Calls Tryz.prog 17 #[.slice Ak nk ck] wx fun e w' => e = .returned (.bool false) ∧ Below wx.heap.size wx w') := hide (fun wx hbx => by
    have := call_ex2 (largeP_any k Ak nk ck wx (hk.on hbx) hnk); rw [g5] at this
    exact this)
  have HCP : Hid (∀ wx, Below w.heap.size w wx → Calls Tryz.prog 18 #[.slice Ak nk ck] wx fun e w' => e = .returned (.bool false) ∧ Below wx.heap.size wx w') := hide (fun wx hbx => by
    have := refCheckP_any k Ak nk ck wx (hk.on hbx) (fun q hq => by have := kp.2 q hq; omega) (by omega); rw [g6] at this
    exact this)
  have HW : Hid (∀ wx, Below w.heap.size w wx → Calls Tryz.prog 7 #[] wx fun e w' => e = .returned (.bool true) ∧ Below wx.heap.size wx w') := hide (fun wx hbx => by
    have := awakeC_any SJ SS wx (hT.below hbx)
    exact this)
  clear h h' hk hn hn' hnk ha hb hnm hT SJ SS SC SM SH g1 g2 g3 g4 g5 g6 l40 hsz hsm hfa hla0 l40' hsz' hsm' hfb hlb0 kp hlk0
  obtain ⟨W, hW⟩ : ∃ W, W = w.alloc (.cells #[.string nm, .slice Ak nk ck] 36) := ⟨_, rfl⟩
  have hbw : Below w.heap.size w W := by rw [hW]; exact alloc_b _
  have bk : Blk W w.heap.size 36 #[.string nm, .slice Ak nk ck] := by rw [hW]; exact Blk.new _ _ _
  have k0 := bk.cell 0
  have k1 := bk.cell 1
  go_enter Tryz.func5, Tryz.ntmps5
  go_upto_region 1 with fail
  try rw [← hW]
  clear hW
  go_wp2_with (first
    | (go_at_call 7
       refine (HW.out _ hbw).mono ?_
       rintro e wn ⟨rfl, hbx⟩
       have hbw := hbw.trans (hbx.mono hbw.size)
       have bk := bk.below hbx bk.lt
       have k0 := bk.cell 0
       have k1 := bk.cell 1)
    | (go_at_call 18
       refine (HCP.out _ hbw).mono ?_
       rintro e wn ⟨rfl, hbx⟩
       have hbw := hbw.trans (hbx.mono hbw.size)
       have bk := bk.below hbx bk.lt
       have k0 := bk.cell 0
       have k1 := bk.cell 1)
    | (go_at_call 17
       refine (HLP.out _ hbw).mono ?_
       rintro e wn ⟨rfl, hbx⟩
       have hbw := hbw.trans (hbx.mono hbw.size)
       have bk := bk.below hbx bk.lt
       have k0 := bk.cell 0
       have k1 := bk.cell 1)
    | (go_at_call 8
       have hneed := hca
       refine (HCB.out _ hbw).mono ?_
       rintro e wn ⟨rfl, hbx⟩
       have hbw := hbw.trans (hbx.mono hbw.size)
       have bk := bk.below hbx bk.lt
       have k0 := bk.cell 0
       have k1 := bk.cell 1
       have hcb := True.intro)
    | (go_at_call 8
       refine (HCA.out _ hbw).mono ?_
       rintro e wn ⟨rfl, hbx⟩
       have hbw := hbw.trans (hbx.mono hbw.size)
       have bk := bk.below hbx bk.lt
       have k0 := bk.cell 0
       have k1 := bk.cell 1
       have hca := True.intro)
    | (go_at_call 6
       have hneed := hla
       refine (HLB.out _ hbw).mono ?_
       rintro e wn ⟨rfl, hbx⟩
       have hbw := hbw.trans (hbx.mono hbw.size)
       have bk := bk.below hbx bk.lt
       have k0 := bk.cell 0
       have k1 := bk.cell 1
       have hlb := True.intro)
    | (go_at_call 6
       refine (HLA.out _ hbw).mono ?_
       rintro e wn ⟨rfl, hbx⟩
       have hbw := hbw.trans (hbx.mono hbw.size)
       have bk := bk.below hbx bk.lt
       have k0 := bk.cell 0
       have k1 := bk.cell 1
       have hla := True.intro))
  go_ret
  exact ⟨rfl, hbw⟩
set_option maxHeartbeats 8000000 in
set_option maxRecDepth 100000 in
theorem sound_nm (SJ : SpecJoinC) (SS : SpecShowC) (SC : SpecCheckC) (SM : SpecMakeC) (SH : SpecHoldsC) (a b : List Tm) (k : List Pk) (nm : ByteArray) (A A' Ak : Option Addr) (n c n' c' nk ck : Nat) (w : World) (h : TmOn w A n a) (h' : TmOn w A' n' b) (hk : PkOn w Ak nk k)
    (hn : n ≤ 9223372036854775807) (hn' : n' ≤ 9223372036854775807) (hnk : nk ≤ 9223372036854775807) (ha : ∀ t ∈ a, t.name.size ≤ 9223372036854775807 ∧ t.set.length ≤ 9223372036854775807) (hb : ∀ t ∈ b, t.name.size ≤ 9223372036854775807 ∧ t.set.length ≤ 9223372036854775807) (hnm : nm.size ≤ 9223372036854775807) (hT : Tabs w)
    (g1 : largeC a = false) (g2 : largeC b = false) (g3 : okC a = true) (g4 : okC b = true) (g5 : largeP k = false) (g6 : okP k = true) (g7 : 200 < nm.size) :
    Calls Tryz.prog 5 #[.slice A n c, .slice A' n' c', .agg #[.string nm, .slice Ak nk ck]] w fun e w' => e = .returned (.bool true) ∧ Below w.heap.size w w' := by
  obtain ⟨l40, hsz, hsm, hfa⟩ := smallC g1
  have hla0 := h.len
  obtain ⟨l40', hsz', hsm', hfb⟩ := smallC g2
  have hlb0 := h'.len
  have HLA : Hid (∀ wx, Below w.heap.size w wx → Calls Tryz.prog 6 #[.slice A n c] wx fun e w' => e = .returned (.bool false) ∧ Below wx.heap.size wx w') := hide (fun wx hbx => by
    have := largeC_any a A n c wx (h.on hbx) hn ha; rw [g1] at this
    exact this)
  have HLB : Hid (∀ wx, Below w.heap.size w wx → Calls Tryz.prog 6 #[.slice A' n' c'] wx fun e w' => e = .returned (.bool false) ∧ Below wx.heap.size wx w') := hide (fun wx hbx => by
    have := largeC_any b A' n' c' wx (h'.on hbx) hn' hb; rw [g2] at this
    exact this)
  have HCA : Hid (∀ wx, Below w.heap.size w wx → Calls Tryz.prog 8 #[.slice A n c] wx fun e w' => e = .returned (.bool true) ∧ Below wx.heap.size wx w') := hide (fun wx hbx => by
    have := SC a A n c wx (h.on hbx) hfa; rw [g3] at this
    exact this)
  have HCB : Hid (∀ wx, Below w.heap.size w wx → Calls Tryz.prog 8 #[.slice A' n' c'] wx fun e w' => e = .returned (.bool true) ∧ Below wx.heap.size wx w') := hide (fun wx hbx => by
    have := SC b A' n' c' wx (h'.on hbx) hfb; rw [g4] at this
    exact this)
  have kp := largeP_no g5
  have hlk0 := hk.len
  have HLP : Hid (∀ wx, Below w.heap.size w wx → Calls Tryz.prog 17 #[.slice Ak nk ck] wx fun e w' => e = .returned (.bool false) ∧ Below wx.heap.size wx w') := hide (fun wx hbx => by
    have := call_ex2 (largeP_any k Ak nk ck wx (hk.on hbx) hnk); rw [g5] at this
    exact this)
  have HCP : Hid (∀ wx, Below w.heap.size w wx → Calls Tryz.prog 18 #[.slice Ak nk ck] wx fun e w' => e = .returned (.bool true) ∧ Below wx.heap.size wx w') := hide (fun wx hbx => by
    have := refCheckP_any k Ak nk ck wx (hk.on hbx) (fun q hq => by have := kp.2 q hq; omega) (by omega); rw [g6] at this
    exact this)
  have HW : Hid (∀ wx, Below w.heap.size w wx → Calls Tryz.prog 7 #[] wx fun e w' => e = .returned (.bool true) ∧ Below wx.heap.size wx w') := hide (fun wx hbx => by
    have := awakeC_any SJ SS wx (hT.below hbx)
    exact this)
  have g7z : (200 : Int) < (nm.size : Int) := by omega
  clear h h' hk hn hn' hnk ha hb hnm hT SJ SS SC SM SH g1 g2 g3 g4 g5 g6 l40 hsz hsm hfa hla0 l40' hsz' hsm' hfb hlb0 kp hlk0
  obtain ⟨W, hW⟩ : ∃ W, W = w.alloc (.cells #[.string nm, .slice Ak nk ck] 36) := ⟨_, rfl⟩
  have hbw : Below w.heap.size w W := by rw [hW]; exact alloc_b _
  have bk : Blk W w.heap.size 36 #[.string nm, .slice Ak nk ck] := by rw [hW]; exact Blk.new _ _ _
  have k0 := bk.cell 0
  have k1 := bk.cell 1
  go_enter Tryz.func5, Tryz.ntmps5
  go_upto_region 1 with fail
  try rw [← hW]
  clear hW
  go_wp2_with (first
    | (go_at_call 7
       refine (HW.out _ hbw).mono ?_
       rintro e wn ⟨rfl, hbx⟩
       have hbw := hbw.trans (hbx.mono hbw.size)
       have bk := bk.below hbx bk.lt
       have k0 := bk.cell 0
       have k1 := bk.cell 1)
    | (go_at_call 18
       refine (HCP.out _ hbw).mono ?_
       rintro e wn ⟨rfl, hbx⟩
       have hbw := hbw.trans (hbx.mono hbw.size)
       have bk := bk.below hbx bk.lt
       have k0 := bk.cell 0
       have k1 := bk.cell 1)
    | (go_at_call 17
       refine (HLP.out _ hbw).mono ?_
       rintro e wn ⟨rfl, hbx⟩
       have hbw := hbw.trans (hbx.mono hbw.size)
       have bk := bk.below hbx bk.lt
       have k0 := bk.cell 0
       have k1 := bk.cell 1)
    | (go_at_call 8
       have hneed := hca
       refine (HCB.out _ hbw).mono ?_
       rintro e wn ⟨rfl, hbx⟩
       have hbw := hbw.trans (hbx.mono hbw.size)
       have bk := bk.below hbx bk.lt
       have k0 := bk.cell 0
       have k1 := bk.cell 1
       have hcb := True.intro)
    | (go_at_call 8
       refine (HCA.out _ hbw).mono ?_
       rintro e wn ⟨rfl, hbx⟩
       have hbw := hbw.trans (hbx.mono hbw.size)
       have bk := bk.below hbx bk.lt
       have k0 := bk.cell 0
       have k1 := bk.cell 1
       have hca := True.intro)
    | (go_at_call 6
       have hneed := hla
       refine (HLB.out _ hbw).mono ?_
       rintro e wn ⟨rfl, hbx⟩
       have hbw := hbw.trans (hbx.mono hbw.size)
       have bk := bk.below hbx bk.lt
       have k0 := bk.cell 0
       have k1 := bk.cell 1
       have hlb := True.intro)
    | (go_at_call 6
       refine (HLA.out _ hbw).mono ?_
       rintro e wn ⟨rfl, hbx⟩
       have hbw := hbw.trans (hbx.mono hbw.size)
       have bk := bk.below hbx bk.lt
       have k0 := bk.cell 0
       have k1 := bk.cell 1
       have hla := True.intro))
  go_ret
  exact ⟨rfl, hbw⟩
set_option maxHeartbeats 8000000 in
set_option maxRecDepth 100000 in
theorem sound_main (SJ : SpecJoinC) (SS : SpecShowC) (SC : SpecCheckC) (SM : SpecMakeC) (SH : SpecHoldsC) (a b : List Tm) (k : List Pk) (nm : ByteArray) (A A' Ak : Option Addr) (n c n' c' nk ck : Nat) (w : World) (h : TmOn w A n a) (h' : TmOn w A' n' b) (hk : PkOn w Ak nk k)
    (hn : n ≤ 9223372036854775807) (hn' : n' ≤ 9223372036854775807) (hnk : nk ≤ 9223372036854775807) (ha : ∀ t ∈ a, t.name.size ≤ 9223372036854775807 ∧ t.set.length ≤ 9223372036854775807) (hb : ∀ t ∈ b, t.name.size ≤ 9223372036854775807 ∧ t.set.length ≤ 9223372036854775807) (hnm : nm.size ≤ 9223372036854775807) (hT : Tabs w)
    (g1 : largeC a = false) (g2 : largeC b = false) (g3 : okC a = true) (g4 : okC b = true) (g5 : largeP k = false) (g6 : okP k = true) (g7 : ¬ 200 < nm.size) :
    Calls Tryz.prog 5 #[.slice A n c, .slice A' n' c', .agg #[.string nm, .slice Ak nk ck]] w fun e w' => e = .returned (.bool true) ∧ Below w.heap.size w w' := by
  obtain ⟨l40, hsz, hsm, hfa⟩ := smallC g1
  have hla0 := h.len
  obtain ⟨l40', hsz', hsm', hfb⟩ := smallC g2
  have hlb0 := h'.len
  have HLA : Hid (∀ wx, Below w.heap.size w wx → Calls Tryz.prog 6 #[.slice A n c] wx fun e w' => e = .returned (.bool false) ∧ Below wx.heap.size wx w') := hide (fun wx hbx => by
    have := largeC_any a A n c wx (h.on hbx) hn ha; rw [g1] at this
    exact this)
  have HLB : Hid (∀ wx, Below w.heap.size w wx → Calls Tryz.prog 6 #[.slice A' n' c'] wx fun e w' => e = .returned (.bool false) ∧ Below wx.heap.size wx w') := hide (fun wx hbx => by
    have := largeC_any b A' n' c' wx (h'.on hbx) hn' hb; rw [g2] at this
    exact this)
  have HCA : Hid (∀ wx, Below w.heap.size w wx → Calls Tryz.prog 8 #[.slice A n c] wx fun e w' => e = .returned (.bool true) ∧ Below wx.heap.size wx w') := hide (fun wx hbx => by
    have := SC a A n c wx (h.on hbx) hfa; rw [g3] at this
    exact this)
  have HCB : Hid (∀ wx, Below w.heap.size w wx → Calls Tryz.prog 8 #[.slice A' n' c'] wx fun e w' => e = .returned (.bool true) ∧ Below wx.heap.size wx w') := hide (fun wx hbx => by
    have := SC b A' n' c' wx (h'.on hbx) hfb; rw [g4] at this
    exact this)
  have kp := largeP_no g5
  have hlk0 := hk.len
  have HLP : Hid (∀ wx, Below w.heap.size w wx → Calls Tryz.prog 17 #[.slice Ak nk ck] wx fun e w' => e = .returned (.bool false) ∧ Below wx.heap.size wx w') := hide (fun wx hbx => by
    have := call_ex2 (largeP_any k Ak nk ck wx (hk.on hbx) hnk); rw [g5] at this
    exact this)
  have HCP : Hid (∀ wx, Below w.heap.size w wx → Calls Tryz.prog 18 #[.slice Ak nk ck] wx fun e w' => e = .returned (.bool true) ∧ Below wx.heap.size wx w') := hide (fun wx hbx => by
    have := refCheckP_any k Ak nk ck wx (hk.on hbx) (fun q hq => by have := kp.2 q hq; omega) (by omega); rw [g6] at this
    exact this)
  have HW : Hid (∀ wx, Below w.heap.size w wx → Calls Tryz.prog 7 #[] wx fun e w' => e = .returned (.bool true) ∧ Below wx.heap.size wx w') := hide (fun wx hbx => by
    have := awakeC_any SJ SS wx (hT.below hbx)
    exact this)
  have g7z : ¬ (200 : Int) < (nm.size : Int) := by omega
  have OA := okC_iff.1 g3
  have OB := okC_iff.1 g4
  have oa : ∀ t ∈ a, okT t = true := fun t ht => (OA.2 t ht).1
  have ob : ∀ t ∈ b, okT t = true := fun t ht => (OB.2 t ht).1
  have oab : ∀ t ∈ a ++ b, okT t = true := fun t ht => (List.mem_append.1 ht).elim (oa t) (ob t)
  have hq := state_ok g6
  have HHa : Hid (∀ wx, Below w.heap.size w wx → Calls Tryz.prog 24 #[.slice A n c, .slice Ak nk ck] wx fun e w' => e = .returned (.bool (holdsC (getP k) a)) ∧ Below wx.heap.size wx w') := hide (fun wx hbx => by
    have := SH a k A Ak n c nk ck wx (h.on hbx) (hk.on hbx) hfa g3 g6 (by omega)
    exact this)
  have HHb : Hid (∀ wx, Below w.heap.size w wx → Calls Tryz.prog 24 #[.slice A' n' c', .slice Ak nk ck] wx fun e w' => e = .returned (.bool (holdsC (getP k) b)) ∧ Below wx.heap.size wx w') := hide (fun wx hbx => by
    have := SH b k A' Ak n' c' nk ck wx (h'.on hbx) (hk.on hbx) hfb g4 g6 (by omega)
    exact this)
  have HJ : Hid (∀ wx, Below w.heap.size w wx → Calls Tryz.prog 21 #[.slice A n c, .slice A' n' c', .string nm] wx fun e w' => ∃ A n c, e = .returned (.tuple #[.slice A n c, .bool (joinC a b nm).isSome]) ∧ TmOn w' A n ((joinC a b nm).getD []) ∧ Below wx.heap.size wx w') := hide (fun wx hbx => by
    have := SJ a b nm A A' n c n' c' wx (h.on hbx) (h'.on hbx) hfa hfb g3 g4 (by omega) (by omega) (by omega)
    unfold MakesC at this
    exact this)
  have HJs : (joinC a b nm).isSome = true → FineC ((joinC a b nm).getD []) ∧ okC ((joinC a b nm).getD []) = true ∧ (holdsC (getP k) ((joinC a b nm).getD []) = true → holdsC (getP k) a = true ∨ holdsC (getP k) b = true) := fun hs => by
    cases g : joinC a b nm with
    | none => rw [g] at hs; cases hs
    | some j =>
      have hj := join_sound OA OB g
      exact ⟨fine_join oa ob g (by omega) (by omega), okC_iff.2 hj.1, fun hh => hj.2 _ hq hh⟩
  have HCj : Hid ((joinC a b nm).isSome = true → ∀ wx A1 n1 c1, TmOn wx A1 n1 ((joinC a b nm).getD []) → Calls Tryz.prog 8 #[.slice A1 n1 c1] wx fun e w' => e = .returned (.bool true) ∧ Below wx.heap.size wx w') := hide (fun hs wx A1 n1 c1 x1 => by
    have := SC _ A1 n1 c1 wx x1 (HJs hs).1
    rw [(HJs hs).2.1] at this
    exact this)
  have HHj : Hid ((joinC a b nm).isSome = true → ∀ wx A1 n1 c1, TmOn wx A1 n1 ((joinC a b nm).getD []) → Below w.heap.size w wx → Calls Tryz.prog 24 #[.slice A1 n1 c1, .slice Ak nk ck] wx fun e w' => e = .returned (.bool (holdsC (getP k) ((joinC a b nm).getD []))) ∧ Below wx.heap.size wx w') := hide (fun hs wx A1 n1 c1 x1 hbx => SH _ k A1 Ak n1 c1 nk ck wx x1 (hk.on hbx) (HJs hs).1 (HJs hs).2.1 g6 (by omega))
  have F1 := hide (fun hs => (HJs hs).2.2)
  have HM : Hid (∀ wx A1 n1 c1, TmOn wx A1 n1 (a ++ b) → Calls Tryz.prog 15 #[.slice A1 n1 c1] wx fun e w' => ∃ A n c, e = .returned (.tuple #[.slice A n c, .bool (makeC (a ++ b)).isSome]) ∧ TmOn w' A n ((makeC (a ++ b)).getD []) ∧ Below wx.heap.size wx w') := hide (fun wx A1 n1 c1 x1 => by
    have := SM (a ++ b) A1 n1 c1 wx x1 ⟨by rw [List.length_append]; omega, by rw [sumC_append]; omega, fun t ht => (List.mem_append.1 ht).elim (hfa.2.2 t) (hfb.2.2 t)⟩ oab
    unfold MakesC at this
    exact this)
  have HMs : (makeC (a ++ b)).isSome = true → FineC ((makeC (a ++ b)).getD []) ∧ okC ((makeC (a ++ b)).getD []) = true ∧ holdsC (getP k) ((makeC (a ++ b)).getD []) = (holdsC (getP k) a && holdsC (getP k) b) := fun hs => by
    cases g : makeC (a ++ b) with
    | none => rw [g] at hs; cases hs
    | some m => exact ⟨fine_make oab g (by rw [List.length_append]; omega) (by rw [sumC_append]; omega), okC_iff.2 (make_ok oab g), (make_holds hq g).trans holds_both⟩
  have F2 : Hid ((makeC (a ++ b)).isSome = false → (holdsC (getP k) a && holdsC (getP k) b) = false) := hide (fun hs => by
    cases g : makeC (a ++ b) with
    | none => rw [← holds_both]; exact make_never hq g
    | some m => rw [g] at hs; cases hs)
  have HCm : Hid ((makeC (a ++ b)).isSome = true → ∀ wx A1 n1 c1, TmOn wx A1 n1 ((makeC (a ++ b)).getD []) → Calls Tryz.prog 8 #[.slice A1 n1 c1] wx fun e w' => e = .returned (.bool true) ∧ Below wx.heap.size wx w') := hide (fun hs wx A1 n1 c1 x1 => by
    have := SC _ A1 n1 c1 wx x1 (HMs hs).1
    rw [(HMs hs).2.1] at this
    exact this)
  have HHm : Hid ((makeC (a ++ b)).isSome = true → ∀ wx A1 n1 c1, TmOn wx A1 n1 ((makeC (a ++ b)).getD []) → Below w.heap.size w wx → Calls Tryz.prog 24 #[.slice A1 n1 c1, .slice Ak nk ck] wx fun e w' => e = .returned (.bool (holdsC (getP k) a && holdsC (getP k) b)) ∧ Below wx.heap.size wx w') := hide (fun hs wx A1 n1 c1 x1 hbx => by
    have := SH _ k A1 Ak n1 c1 nk ck wx x1 (hk.on hbx) (HMs hs).1 (HMs hs).2.1 g6 (by omega)
    rw [(HMs hs).2.2] at this
    exact this)
  obtain ⟨i0, hi0, hz0, hz1, hz2⟩ := info_parts info_term
  have Ha := hide h
  have Hb := hide h'
  have hn40 : n ≤ 40 := by omega
  have hn40' : n' ≤ 40 := by omega
  generalize (joinC a b nm).isSome = may at *
  generalize holdsC (getP k) ((joinC a b nm).getD []) = hj at *
  generalize (joinC a b nm).getD [] = Lj at *
  generalize (makeC (a ++ b)).isSome = can at *
  generalize (makeC (a ++ b)).getD [] = Lm at *
  generalize holdsC (getP k) a = x at *
  generalize holdsC (getP k) b = y at *
  clear h h' hk hn hn' hnk ha hb hnm hT SJ SS SC SM SH g1 g2 g3 g4 g5 g6 l40 hsz hsm hfa hla0 l40' hsz' hsm' hfb hlb0 kp hlk0 OA OB oa ob oab hq HJs HMs
  obtain ⟨W, hW⟩ : ∃ W, W = w.alloc (.cells #[.string nm, .slice Ak nk ck] 36) := ⟨_, rfl⟩
  have hbw : Below w.heap.size w W := by rw [hW]; exact alloc_b _
  have bk : Blk W w.heap.size 36 #[.string nm, .slice Ak nk ck] := by rw [hW]; exact Blk.new _ _ _
  have k0 := bk.cell 0
  have k1 := bk.cell 1
  go_enter Tryz.func5, Tryz.ntmps5
  go_upto_region 1 with fail
  try rw [← hW]
  clear hW
  go_upto_region 3 with (first
    | (go_at_call 18
       refine (HCP.out _ hbw).mono ?_
       rintro e wn ⟨rfl, hbx⟩
       have hbw := hbw.trans (hbx.mono hbw.size)
       have bk := bk.below hbx bk.lt
       have k0 := bk.cell 0
       have k1 := bk.cell 1)
    | (go_at_call 17
       refine (HLP.out _ hbw).mono ?_
       rintro e wn ⟨rfl, hbx⟩
       have hbw := hbw.trans (hbx.mono hbw.size)
       have bk := bk.below hbx bk.lt
       have k0 := bk.cell 0
       have k1 := bk.cell 1)
    | (go_at_call 8
       have hneed := hca
       refine (HCB.out _ hbw).mono ?_
       rintro e wn ⟨rfl, hbx⟩
       have hbw := hbw.trans (hbx.mono hbw.size)
       have bk := bk.below hbx bk.lt
       have k0 := bk.cell 0
       have k1 := bk.cell 1
       have hcb := True.intro)
    | (go_at_call 8
       refine (HCA.out _ hbw).mono ?_
       rintro e wn ⟨rfl, hbx⟩
       have hbw := hbw.trans (hbx.mono hbw.size)
       have bk := bk.below hbx bk.lt
       have k0 := bk.cell 0
       have k1 := bk.cell 1
       have hca := True.intro)
    | (go_at_call 6
       have hneed := hla
       refine (HLB.out _ hbw).mono ?_
       rintro e wn ⟨rfl, hbx⟩
       have hbw := hbw.trans (hbx.mono hbw.size)
       have bk := bk.below hbx bk.lt
       have k0 := bk.cell 0
       have k1 := bk.cell 1
       have hlb := True.intro)
    | (go_at_call 6
       refine (HLA.out _ hbw).mono ?_
       rintro e wn ⟨rfl, hbx⟩
       have hbw := hbw.trans (hbx.mono hbw.size)
       have bk := bk.below hbx bk.lt
       have k0 := bk.cell 0
       have k1 := bk.cell 1
       have hla := True.intro))
  clear HLA HLB HCA HCB HLP HCP
  have qc0 := cell_reg_ ((bk.cell 0).trans (show (#[.string nm, .slice Ak nk ck] : Array Value)[0]? = some (.string nm) from rfl)) bk.lt
  have qc1 := cell_reg_ ((bk.cell 1).trans (show (#[.string nm, .slice Ak nk ck] : Array Value)[1]? = some (.slice Ak nk ck) from rfl)) bk.lt
  have hbs := hbw.size
  have up := hide (fun (wx : World) (hx : Below _ _ wx) => hbw.trans (hx.mono hbs))
  refine wp_region_grow [(50, isC (.bool x)), (54, isC (.bool y))] [50, 54]
    (by kernel_rfl) (by kernel_rfl) rfl (by kernel_rfl) (by kernel_rfl) ⟨isC_stable _, isC_stable _, trivial⟩ ?_
  repeat (first
    | (refine lex_skip rfl ?_; simp only [Act.put, List.setIfInBounds_toArray, List.set_cons_zero, List.set_cons_succ])
    | (refine lex_quiet rfl rfl rfl (fun K hK => ?_); unfold Reg; go_big_quiet_op; refine hK _ ?_; clear hK K))
  refine lex_rel rfl rfl (fun w' hb9 hK => ?_) (fun v w' hb9 hv => ?_)
  · clear hK
    unfold grows
    go_simp
    go_at_call 24
    exact call_isC (HHa.out w' (up.out _ hb9))
  obtain rfl := hv
  simp only [Act.put, List.setIfInBounds_toArray, List.set_cons_zero, List.set_cons_succ]
  repeat (first
    | (refine lex_skip rfl ?_; simp only [Act.put, List.setIfInBounds_toArray, List.set_cons_zero, List.set_cons_succ])
    | (refine lex_quiet rfl rfl rfl (fun K hK => ?_); unfold Reg; go_big_quiet_op; refine hK _ ?_; clear hK K))
  refine lex_rel rfl rfl (fun w' hb9 hK => ?_) (fun v w' hb9 hv => ?_)
  · clear hK
    unfold grows
    go_simp
    go_at_call 24
    exact call_isC (HHb.out w' (up.out _ hb9))
  obtain rfl := hv
  simp only [Act.put, List.setIfInBounds_toArray, List.set_cons_zero, List.set_cons_succ]
  repeat (first
    | (refine lex_skip rfl ?_; simp only [Act.put, List.setIfInBounds_toArray, List.set_cons_zero, List.set_cons_succ])
    | (refine lex_quiet rfl rfl rfl (fun K hK => ?_); unfold Reg; go_big_quiet_op; refine hK _ ?_; clear hK K))
  refine lex_nil (fun w9 hC9 _ => ?_)
  have hb9 := reg_iff.1 hC9
  clear hC9
  have hbw := up.out _ hb9
  have bk := bk.below hb9 bk.lt
  have k0 := bk.cell 0
  have k1 := bk.cell 1
  clear up hb9 hbs qc0 qc1
  go_upto_region 5 with (first
    | (go_at_call 21
       refine (HJ.out _ hbw).mono ?_
       rintro e w3 ⟨A3, n3, c3, rfl, x3, hbx⟩
       have hbw := hbw.trans (hbx.mono hbw.size)
       have bk := bk.below hbx bk.lt
       have k0 := bk.cell 0
       have k1 := bk.cell 1))
  have W3 : Below w3.heap.size w3 w3 := Below.refl _ _
  go_cut [82] (fun u wx => u = .bool false ∧ Below w3.heap.size w3 wx)
  case first =>
    cases may with
    | false =>
      go_wp2
      go_meet
      exact ⟨rfl, W3⟩
    | true =>
    have CJ := hide (HCj.out rfl)
    have HJ2 := hide (HHj.out rfl)
    cases hj with
    | false =>
      go_wp2_with (first
        | (go_at_call 24
           refine (HJ2.out _ _ _ _ y3 hb4).mono ?_
           rintro e w5 ⟨rfl, hbx⟩
           have hb5 := hc4.trans (hbx.mono hc4.size))
        | (go_at_call 8
           refine (CJ.out _ _ _ _ x3).mono ?_
           rintro e w4 ⟨rfl, hbx⟩
           have y3 := x3.on hbx
           have hb4 := hbw.trans (hbx.mono hbw.size)
           have hc4 := hbx
           have bk4 := bk.below hbx bk.lt
           have k1 := bk4.cell 1))
      go_meet
      exact ⟨by simp, hb5⟩
    | true =>
    have f1 := F1.out rfl rfl
    cases x with
    | true =>
      go_wp2_with (first
        | (go_at_call 24
           refine (HJ2.out _ _ _ _ y3 hb4).mono ?_
           rintro e w5 ⟨rfl, hbx⟩
           have hb5 := hc4.trans (hbx.mono hc4.size))
        | (go_at_call 8
           refine (CJ.out _ _ _ _ x3).mono ?_
           rintro e w4 ⟨rfl, hbx⟩
           have y3 := x3.on hbx
           have hb4 := hbw.trans (hbx.mono hbw.size)
           have hc4 := hbx
           have bk4 := bk.below hbx bk.lt
           have k1 := bk4.cell 1))
      go_meet
      exact ⟨by simp, hb5⟩
    | false =>
    have f2 : y = true := by simpa using f1
    subst f2
    go_wp2_with (first
      | (go_at_call 24
         refine (HJ2.out _ _ _ _ y3 hb4).mono ?_
         rintro e w5 ⟨rfl, hbx⟩
         have hb5 := hc4.trans (hbx.mono hc4.size))
      | (go_at_call 8
         refine (CJ.out _ _ _ _ x3).mono ?_
         rintro e w4 ⟨rfl, hbx⟩
         have y3 := x3.on hbx
         have hb4 := hbw.trans (hbx.mono hbw.size)
         have hc4 := hbx
         have bk4 := bk.below hbx bk.lt
         have k1 := bk4.cell 1))
    go_meet
    exact ⟨by simp, hb5⟩
  case rest =>
    obtain ⟨rfl, hc5⟩ := hcut
    have hbw := hbw.trans (hc5.mono hbw.size)
    have bk := bk.below hc5 bk.lt
    clear HCj HHj HJ F1 x3 W3 hc5
    obtain ⟨ra, hra, hfa⟩ := Ha.out.on hbw
    obtain ⟨rb, hrb, hfb⟩ := Hb.out.on hbw
    have Ra := hide hra
    have Rb := hide hrb
    have la := hfa.1
    have lb := hfb.1
    have l1 := hra.1
    have l2 := hrb.1
    rw [tms_length] at l1 l2
    have oa := tms_one ra (fun r hr => by
      obtain ⟨i, hi, rfl⟩ := List.getElem_of_mem hr
      obtain ⟨_, _, A9, n9, c9, e9, _⟩ := hfa.2 i ra[i] (a[i]'(by omega)) (by simp) (by simp)
      exact ⟨A9, n9, c9, e9⟩)
    have ob := tms_one rb (fun r hr => by
      obtain ⟨i, hi, rfl⟩ := List.getElem_of_mem hr
      obtain ⟨_, _, A9, n9, c9, e9, _⟩ := hfb.2 i rb[i] (b[i]'(by omega)) (by simp) (by simp)
      exact ⟨A9, n9, c9, e9⟩)
    have Oa := hide oa
    have Ob := hide ob
    have Fa := hide hfa
    have Fb := hide hfb
    clear hra hrb hfa hfb oa ob l1 l2 la lb
    go_upto_region 8 with (first
      | (go_at_call 15
         refine (HM.out _ _ _ _ xm).mono ?_
         rintro e w8 ⟨A8, n8, c8, rfl, x8, hb8x⟩
         have hb8 := hbv.trans (hb8x.mono hbv.size)
         have hbw8 := hbw.trans (hb8.mono hbw.size))
      | (at_builtin
         have hneed := N1
         obtain ⟨A6, c6, rfl, _, _⟩ := N1.told
         refine wpList_append_any _ rfl (.tmp 86) (.tmp 87) _ rfl wc.heap.size 30 i0 _ 3 48 Tryz.underlying22 hi0 hz0 hz1 hz2 rfl (by omega) _ _ (tms ([] ++ ra)) rfl
           N1.1 wc.heap.size _ _ _ _ rfl (Rb.out.below hb1) Ob.out (by unfold maxLen; omega) (by omega) hb1.size ?_
         intro v7 w7 hown7 hg7 hat7
         have N2 := N1.cat (AllT.mono (AllT.of_fits Fb.out (Nat.le_refl _)) (fun A9 n9 s9 h9 => h9.below hb1)) hown7 hg7
         have hbv : Below wc.heap.size wc w7 := hb1.grown hg7 hb1.size (fun k hk => (N1.1.lt k hk).1)
         obtain ⟨A7, c7, rfl, _, xm0⟩ := N2.told
         have xm : TmOn w7 A7 _ (a ++ b) := xm0)
      | (at_builtin
         refine wpList_append_any _ rfl (.tmp 84) (.tmp 85) _ rfl wc.heap.size 30 i0 _ 3 48 Tryz.underlying22 hi0 hz0 hz1 hz2 rfl (by omega) _ 0 (tms []) rfl
           (own_empty3 wc _ _ (Nat.le_refl _)) wc.heap.size _ _ _ _ rfl (Ra.out.below (alloc_b _)) Oa.out (by unfold maxLen; omega) (by omega) (by simp) ?_
         intro v6 w6 hown6 hg6 hat6
         rw [Nat.zero_add] at hown6
         have hA6 := alloc_b (w := wc) (.cells #[] 30)
         have N0 : Tms (wc.alloc (.cells #[] 30)) wc.heap.size (.slice (some ⟨wc.heap.size, 0, none⟩) 0 0) 0 [] [] := ⟨own_empty3 wc _ _ (Nat.le_refl _), rfl, fun i r q hr _ => by simp at hr⟩
         have N1 := N0.cat (AllT.mono (AllT.of_fits Fa.out (Nat.le_refl _)) (fun A9 n9 s9 h9 => h9.below hA6)) hown6 hg6
         have hb1 : Below wc.heap.size wc w6 := hA6.grown hg6 (by simp) (fun k hk => (N0.1.lt k hk).1)))
    have bk := bk.below hb8 bk.lt
    have k1 := bk.cell 1
    have hbw := hbw8
    clear hb8 hb8x hbw8 xm HM Ra Rb Oa Ob Fa Fb
    have W8 : Below w8.heap.size w8 w8 := Below.refl _ _
    go_cut [6] (fun u wx => u = .bool true ∧ Below w8.heap.size w8 wx)
    case first =>
      cases can with
      | false =>
        have f2 := F2.out rfl
        have HW8 := hide (HW.out _ hbw)
        cases x with
        | false =>
          go_wp2_with (first
            | (go_at_call 7
               refine HW8.out.mono ?_
               rintro e w10 ⟨rfl, hb10⟩))
          go_meet
          exact ⟨rfl, hb10⟩
        | true =>
          have f3 : y = false := by simpa using f2
          subst f3
          go_wp2_with (first
            | (go_at_call 7
               refine HW8.out.mono ?_
               rintro e w10 ⟨rfl, hb10⟩))
          go_meet
          exact ⟨rfl, hb10⟩
      | true =>
        have CM := hide (HCm.out rfl)
        have HM2 := hide (HHm.out rfl)
        cases x <;> cases y <;>
        · go_wp2_with (first
            | (go_at_call 7
               refine (HW.out _ hbw9).mono ?_
               rintro e w11 ⟨rfl, hbx⟩
               have hb11 := hb9.trans (hbx.mono hb9.size))
            | (go_at_call 24
               refine (HM2.out _ _ _ _ y8 hbw4).mono ?_
               rintro e w9 ⟨rfl, hbx⟩
               have hb9 := hb4.trans (hbx.mono hb4.size)
               have hbw9 := hbw4.trans (hbx.mono hbw4.size))
            | (go_at_call 8
               refine (CM.out _ _ _ _ x8).mono ?_
               rintro e w4 ⟨rfl, hbx⟩
               have y8 := x8.on hbx
               have hb4 := hbx
               have hbw4 := hbw.trans (hbx.mono hbw.size)
               have bk4 := bk.below hbx bk.lt
               have k1 := bk4.cell 1))
          go_meet
          exact ⟨rfl, hb11⟩
    case rest =>
      obtain ⟨rfl, hc9⟩ := hcut
      go_wp2
      go_ret
      exact ⟨rfl, hbw.trans (hc9.mono hbw.size)⟩
theorem sound_walk (SJ : SpecJoinC) (SS : SpecShowC) (SC : SpecCheckC) (SM : SpecMakeC) (SH : SpecHoldsC) (a b : List Tm) (k : List Pk) (nm : ByteArray) (A A' Ak : Option Addr) (n c n' c' nk ck : Nat) (w : World) (h : TmOn w A n a) (h' : TmOn w A' n' b) (hk : PkOn w Ak nk k)
    (hn : n ≤ 9223372036854775807) (hn' : n' ≤ 9223372036854775807) (hnk : nk ≤ 9223372036854775807) (ha : ∀ t ∈ a, t.name.size ≤ 9223372036854775807 ∧ t.set.length ≤ 9223372036854775807) (hb : ∀ t ∈ b, t.name.size ≤ 9223372036854775807 ∧ t.set.length ≤ 9223372036854775807) (hnm : nm.size ≤ 9223372036854775807) (hT : Tabs w) :
    Calls Tryz.prog 5 #[.slice A n c, .slice A' n' c', .agg #[.string nm, .slice Ak nk ck]] w fun e w' => e = .returned (.bool true) ∧ Below w.heap.size w w' := by
  cases g1 : largeC a with
  | true => exact sound_la SJ SS SC SM SH a b k nm A A' Ak n c n' c' nk ck w h h' hk hn hn' hnk ha hb hnm hT g1
  | false =>
  cases g2 : largeC b with
  | true => exact sound_lb SJ SS SC SM SH a b k nm A A' Ak n c n' c' nk ck w h h' hk hn hn' hnk ha hb hnm hT g1 g2
  | false =>
  cases g3 : okC a with
  | false => exact sound_ca SJ SS SC SM SH a b k nm A A' Ak n c n' c' nk ck w h h' hk hn hn' hnk ha hb hnm hT g1 g2 g3
  | true =>
  cases g4 : okC b with
  | false => exact sound_cb SJ SS SC SM SH a b k nm A A' Ak n c n' c' nk ck w h h' hk hn hn' hnk ha hb hnm hT g1 g2 g3 g4
  | true =>
  cases g5 : largeP k with
  | true => exact sound_lp SJ SS SC SM SH a b k nm A A' Ak n c n' c' nk ck w h h' hk hn hn' hnk ha hb hnm hT g1 g2 g3 g4 g5
  | false =>
  cases g6 : okP k with
  | false => exact sound_cp SJ SS SC SM SH a b k nm A A' Ak n c n' c' nk ck w h h' hk hn hn' hnk ha hb hnm hT g1 g2 g3 g4 g5 g6
  | true =>
  by_cases g7 : 200 < nm.size
  · exact sound_nm SJ SS SC SM SH a b k nm A A' Ak n c n' c' nk ck w h h' hk hn hn' hnk ha hb hnm hT g1 g2 g3 g4 g5 g6 g7
  · exact sound_main SJ SS SC SM SH a b k nm A A' Ak n c n' c' nk ck w h h' hk hn hn' hnk ha hb hnm hT g1 g2 g3 g4 g5 g6 g7
end Go.Proofs.YtckioihkknhfpaaGreatDoor.Clash
/-
  Contracts of the program's Check, Same (over the library's EqualFunc) and Holds of clashes. Condition: terms of a number, of names and of sets that may be walked.
-/
namespace Go.Proofs.YtckioihkknhfpaaGreatDoor.Clash
open Go.Proofs.YtckioihkknhfpaaGreatDoor.Pick (triP empty_lt fit_some Pk PkOn getP okP)
open Go Go.RowKit Go.Lib Go.Proofs.YtckioihkknhfpaaGreatDoor.Span Go.Proofs.YtckioihkknhfpaaGreatDoor.Need Go.Proofs.YtckioihkknhfpaaGreatDoor.Grow Go.Proofs.YtckioihkknhfpaaGreatDoor.Term
open Go.Proofs.YtckioihkknhfpaaGreatDoor.Label (runes fitL)
set_option linter.unusedVariables false
set_option maxHeartbeats 8000000 in
set_option maxRecDepth 100000 in
theorem specCheckC : SpecCheckC := by
  intro l A n c w h hl
  have hlen := h.len
  have hn : n ≤ 1000 := by rw [← hlen]; exact hl.1
  have hfi := hl.fine
  have Hd := hide (fun a i q => @okCQ_drop l a i q)
  obtain ⟨F, hF⟩ : ∃ F, F = okCQ ByteArray.empty l := ⟨_, rfl⟩
  have Hl : Hid (okC l = F) := hide hF.symm
  have HF := hide hF
  have Hlen := hide hlen
  clear hF hlen hl
  generalize okC l = L at *
  go_enter Tryz.func8, Tryz.ntmps8
  go_wp2
  go_loopw [3, 8] (fun u v wr => ∃ (i : Nat) (a : ByteArray), i ≤ n ∧ u = .string a ∧ v = .int .i64 (i : Int) ∧ Hid (F = okCQ a (l.drop i)) ∧ Below w.heap.size w wr) (fun _ v _ => n - (RowKit.intOf v).toNat)
  case atStart => exact ⟨0, ByteArray.empty, by omega, rfl, rfl, HF, Below.refl _ _⟩
  case round =>
    obtain ⟨i, a, hi, rfl, rfl, hf, hb⟩ := hrel
    have hbs := hb.size
    by_cases hlt : i < n
    · obtain ⟨ad, t, A', n', c', rfl, hbl, hx, hs, c1, c2, c3⟩ := TmIn.at_ (TmIn.below h hb) hlt
      obtain ⟨hq1, hq2⟩ := hfi t (List.mem_of_getElem? hx)
      have hsl := hs.1
      have hd := hf.out.trans (Hd.out a i t hx)
      obtain ⟨V, hV⟩ : ∃ V, V = wr.alloc (.cells #[.string t.name, .slice A' n' c', .bool t.none] 30) := ⟨_, rfl⟩
      have hbV : Below wr.heap.size wr V := by rw [hV]; exact alloc_b _
      have bt : Blk V wr.heap.size 30 #[.string t.name, .slice A' n' c', .bool t.none] := by rw [hV]; exact Blk.new _ _ _
      have hsV : SpOn V A' n' t.set := (((hs.more hbs).below hbV).more hbV.size)
      have hbw : Below w.heap.size w V := hb.trans (hbV.mono hbs)
      have hVs := hbw.size
      have HX : Hid (∀ wx, Below V.heap.size V wx → wx.cell? ⟨wr.heap.size, 0, none⟩ = some (.string t.name) ∧ wx.cell? ⟨wr.heap.size, 1, none⟩ = some (.slice A' n' c') ∧ wx.cell? ⟨wr.heap.size, 2, none⟩ = some (.bool t.none)) := hide (fun wx hbx => ⟨((bt.below hbx bt.lt).cell 0).trans rfl, ((bt.below hbx bt.lt).cell 1).trans rfl, ((bt.below hbx bt.lt).cell 2).trans rfl⟩)
      have HC : Hid (∀ wx, Below V.heap.size V wx → Calls Tryz.prog 27 #[.agg #[.string t.name, .slice A' n' c', .bool t.none]] wx fun e w' => e = .returned (.bool (okT t)) ∧ Below wx.heap.size wx w') := hide (fun wx hbx => by
        have := checkT_any t.name t.set t.none A' n' c' wx (hsV.on hbx) (by omega) (by omega)
        unfold Tells at this
        exact this)
      have HU : Hid (∀ wx, Below V.heap.size V wx → Calls Tryz.prog 28 #[.agg #[.string t.name, .slice A' n' c', .bool t.none]] wx fun e w' => e = .returned (.bool (fullT t)) ∧ Below wx.heap.size wx w') := hide (fun wx hbx => by
        have := fullT_any t.name t.set t.none A' n' c' wx (hsV.on hbx) (by omega)
        unfold Tells at this
        exact this)
      have HE : Hid (∀ wx, Below V.heap.size V wx → Calls Tryz.prog 29 #[.agg #[.string t.name, .slice A' n' c', .bool t.none]] wx fun e w' => e = .returned (.bool (emptyT t)) ∧ Below wx.heap.size wx w') := hide (fun wx hbx => by
        have := emptyT_any t.name t.set t.none A' n' c' wx (hsV.on hbx) 
        unfold Tells at this
        exact this)
      unfold inC at hd
      have Hd2 := hide hd
      have htri := triP t.name a
      obtain ⟨k0, k1, k2⟩ := HX.out _ (Below.refl _ _)
      clear hq1 hq2 hsl hd hs hsV hx hf Hd HF h hfi bt hbV
      generalize okT t = y at *
      generalize fullT t = f at *
      generalize emptyT t = m at *
      obtain ⟨nm, s, z⟩ := t
      simp only [] at c1 c2 c3 k0 k1 k2 HC HU HE HX Hd2 htri hV
      go_upto_region 5 with fail
      try rw [← hV]
      clear hV c1 c2 c3
      rcases htri with ⟨f1, f2, f3⟩ | ⟨f1, f2, f3⟩ | ⟨f1, f2, f3⟩
      · have e : Hid (F = false) := hide (by rw [Hd2.out, f2]; simp)
        clear Hd2 f2
        go_wp2
        go_ret
        exact ⟨by rw [Hl.out, e.out]; rfl, hbw⟩
      · have e : Hid (F = false) := hide (by rw [Hd2.out, f2]; simp)
        clear Hd2 f2
        go_wp2
        go_ret
        exact ⟨by rw [Hl.out, e.out]; rfl, hbw⟩
      · cases y with
        | false =>
          have e : Hid (F = false) := hide (by rw [Hd2.out]; simp)
          clear Hd2 f2
          go_wp2_with (first
            | (go_at_call 27
               refine (HC.out _ (Below.refl _ _)).mono ?_
               rintro e w1 ⟨rfl, hb1⟩
               obtain ⟨k10, k11, k12⟩ := HX.out _ hb1))
          go_ret
          exact ⟨by rw [Hl.out, e.out]; rfl, hbw.trans (hb1.mono hVs)⟩
        | true =>
        cases f with
        | true =>
          have e : Hid (F = false) := hide (by rw [Hd2.out]; simp)
          clear Hd2 f2
          go_wp2_with (first
            | (go_at_call 28
               refine (HU.out _ hb1).mono ?_
               rintro e w2 ⟨rfl, hb2x⟩
               have hb2 := hb1.trans (hb2x.mono hb1.size)
               obtain ⟨k20, k21, k22⟩ := HX.out _ hb2)
            | (go_at_call 27
               refine (HC.out _ (Below.refl _ _)).mono ?_
               rintro e w1 ⟨rfl, hb1⟩
               obtain ⟨k10, k11, k12⟩ := HX.out _ hb1))
          go_ret
          exact ⟨by rw [Hl.out, e.out]; rfl, hbw.trans (hb2.mono hVs)⟩
        | false =>
        cases m with
        | true =>
          have e : Hid (F = false) := hide (by rw [Hd2.out]; simp)
          clear Hd2 f2
          go_wp2_with (first
            | (go_at_call 29
               refine (HE.out _ hb2).mono ?_
               rintro e w3 ⟨rfl, hb3x⟩
               have hb3 := hb2.trans (hb3x.mono hb2.size)
               obtain ⟨k30, k31, k32⟩ := HX.out _ hb3)
            | (go_at_call 28
               refine (HU.out _ hb1).mono ?_
               rintro e w2 ⟨rfl, hb2x⟩
               have hb2 := hb1.trans (hb2x.mono hb1.size)
               obtain ⟨k20, k21, k22⟩ := HX.out _ hb2)
            | (go_at_call 27
               refine (HC.out _ (Below.refl _ _)).mono ?_
               rintro e w1 ⟨rfl, hb1⟩
               obtain ⟨k10, k11, k12⟩ := HX.out _ hb1))
          go_ret
          exact ⟨by rw [Hl.out, e.out]; rfl, hbw.trans (hb3.mono hVs)⟩
        | false =>
          have e : Hid (F = okCQ nm (l.drop (i + 1))) := hide (by rw [Hd2.out, f2]; rfl)
          clear Hd2 f2
          go_wp2_with (first
            | (go_at_call 29
               refine (HE.out _ hb2).mono ?_
               rintro e w3 ⟨rfl, hb3x⟩
               have hb3 := hb2.trans (hb3x.mono hb2.size)
               obtain ⟨k30, k31, k32⟩ := HX.out _ hb3)
            | (go_at_call 28
               refine (HU.out _ hb1).mono ?_
               rintro e w2 ⟨rfl, hb2x⟩
               have hb2 := hb1.trans (hb2x.mono hb1.size)
               obtain ⟨k20, k21, k22⟩ := HX.out _ hb2)
            | (go_at_call 27
               refine (HC.out _ (Below.refl _ _)).mono ?_
               rintro e w1 ⟨rfl, hb1⟩
               obtain ⟨k10, k11, k12⟩ := HX.out _ hb1))
          have hbz := hbw.trans (hb3.mono hVs)
          go_roundw
          case rel => exact ⟨i + 1, nm, by omega, rfl, by go_num, e, hbz⟩
          case measure => simp [RowKit.intOf]; omega
    · have e : Hid (F = true) := hide (by rw [hf.out, List.drop_of_length_le (by have := Hlen.out; omega)]; rfl)
      clear hf
      go_wp2
      go_ret
      exact ⟨by rw [Hl.out, e.out]; rfl, hb⟩
set_option maxHeartbeats 8000000 in
set_option maxRecDepth 100000 in
theorem specHoldsC : SpecHoldsC := by
  intro l k A Ak n c nk ck w h hk hl hok hkk hnk
  have hlen := hide h.len
  have hn : n ≤ 1000 := by rw [← h.len]; exact hl.1
  have hset : ∀ t ∈ l, isSet (-1) t.set = true := fun t ht => okT_set ((okC_iff.1 hok).2 t ht).1
  have hrp : Pick.RisesP k := (Pick.okP_iff.1 hkk).1
  have Hd := hide (fun i t => @holds_drop (getP k) l t i)
  have Hend : Hid (holdsC (getP k) (l.drop n) = true) := hide (by rw [List.drop_of_length_le (by have := hlen.out; omega)]; rfl)
  obtain ⟨F, hF⟩ : ∃ F, F = holdsC (getP k) l := ⟨_, rfl⟩
  rw [← hF]
  have HF : Hid (F = holdsC (getP k) (l.drop 0)) := hide hF
  clear hF hl hok hkk
  go_enter Tryz.func24, Tryz.ntmps24
  go_wp2
  go_loopw [11] (fun v wr => ∃ i : Nat, i ≤ n ∧ v = .int .i64 (i : Int) ∧ Hid (F = holdsC (getP k) (l.drop i)) ∧ Below w.heap.size w wr) (fun v _ => n - (RowKit.intOf v).toNat)
  case atStart => exact ⟨0, by omega, rfl, HF, Below.refl _ _⟩
  case round =>
    obtain ⟨i, hi, rfl, hf, hb⟩ := hrel
    have hbs := hb.size
    by_cases hlt : i < n
    · obtain ⟨ad, t, A', n', c', rfl, hbl, hx, hs, c1, c2, c3⟩ := TmIn.at_ (TmIn.below h hb) hlt
      have hst := hset t (List.mem_of_getElem? hx)
      have hsl := len_le hst
      have g1 := hs.1
      have hd := hf.out.trans (Hd.out i t hx)
      rw [holdsT_is] at hd
      obtain ⟨V, hV⟩ : ∃ V, V = wr.alloc (.cells #[.string t.name, .slice A' n' c', .bool t.none] 30) := ⟨_, rfl⟩
      have hbV : Below wr.heap.size wr V := by rw [hV]; exact alloc_b _
      have bt : Blk V wr.heap.size 30 #[.string t.name, .slice A' n' c', .bool t.none] := by rw [hV]; exact Blk.new _ _ _
      have hsV : SpOn V A' n' t.set := (((hs.more hbs).below hbV).more hbV.size)
      have hbw : Below w.heap.size w V := hb.trans (hbV.mono hbs)
      have hVs := hbw.size
      have dn : ∀ j, Below V.heap.size V (V.drewN j) := fun j => below_drewN (Below.refl _ _) j
      have HX : Hid (∀ wx, Below V.heap.size V wx → wx.cell? ⟨wr.heap.size, 0, none⟩ = some (.string t.name) ∧ wx.cell? ⟨wr.heap.size, 1, none⟩ = some (.slice A' n' c') ∧ wx.cell? ⟨wr.heap.size, 2, none⟩ = some (.bool t.none)) := hide (fun wx hbx => ⟨((bt.below hbx bt.lt).cell 0).trans rfl, ((bt.below hbx bt.lt).cell 1).trans rfl, ((bt.below hbx bt.lt).cell 2).trans rfl⟩)
      have HG := hide (fun (wx : World) (hbx : Below V.heap.size V wx) => Pick.get_any k t.name Ak nk ck wx (hk.on (hbw.trans (hbx.mono hVs))) hrp hnk)
      have HH : Hid (∀ wx, Below V.heap.size V wx → Calls Tryz.prog 52 #[.agg #[.string t.name, .slice A' n' c', .bool t.none], .int .i64 ((getP k t.name).getD 0), .bool (getP k t.name).isSome] wx fun e w' => e = .returned (.bool (if (getP k t.name).isSome = true then has t.set ((getP k t.name).getD 0) else t.none)) ∧ Below wx.heap.size wx w') := hide (fun wx hbx => by
        have := hasT_any t.name t.set t.none A' n' c' wx (hsV.on hbx) ((getP k t.name).getD 0) (getP k t.name).isSome (by omega) hst
        unfold Tells at this
        exact this)
      obtain ⟨k0, k1, k2⟩ := HX.out _ (Below.refl _ _)
      clear hx hs hst hsl g1 hf Hd Hend HF h hk hset hsV bt hbV
      generalize (if (getP k t.name).isSome = true then has t.set ((getP k t.name).getD 0) else t.none) = b at *
      generalize (getP k t.name).isSome = is at *
      generalize (getP k t.name).getD 0 = z at *
      go_upto_region 4 with fail
      try rw [← hV]
      clear hV c1 c2 c3
      cases b with
      | false =>
        have e : Hid (F = false) := hide (by rw [hd]; rfl)
        clear hd
        go_wp2_with (first
          | (go_at_call 51
             refine (HG.out _ (Below.refl _ _)).mono ?_
             rintro e W0 ⟨rfl, k9, rfl⟩
             obtain ⟨k10, k11, k12⟩ := HX.out (V.drewN k9) (dn k9))
          | (go_at_call 52
             refine (HH.out _ (dn k9)).mono ?_
             rintro e w1 ⟨rfl, hb1x⟩
             have hb1 := (dn k9).trans (hb1x.mono (Nat.le_refl _))))
        go_ret
        exact ⟨by rw [e.out]; rfl, hbw.trans (hb1.mono hVs)⟩
      | true =>
        have e : Hid (F = holdsC (getP k) (l.drop (i + 1))) := hide (by rw [hd]; rfl)
        clear hd
        go_wp2_with (first
          | (go_at_call 51
             refine (HG.out _ (Below.refl _ _)).mono ?_
             rintro e W0 ⟨rfl, k9, rfl⟩
             obtain ⟨k10, k11, k12⟩ := HX.out (V.drewN k9) (dn k9))
          | (go_at_call 52
             refine (HH.out _ (dn k9)).mono ?_
             rintro e w1 ⟨rfl, hb1x⟩
             have hb1 := (dn k9).trans (hb1x.mono (Nat.le_refl _))))
        go_roundw
        case rel => exact ⟨i + 1, by omega, by go_num, e, hbw.trans (hb1.mono hVs)⟩
        case measure => simp [RowKit.intOf]; omega
    · have hi2 : i = n := by omega
      have e : Hid (F = true) := hide (by rw [hf.out, hi2]; exact Hend.out)
      clear hf HF Hd Hend h
      go_wp2
      go_ret
      exact ⟨by rw [e.out]; rfl, hb⟩
end Go.Proofs.YtckioihkknhfpaaGreatDoor.Clash
/-
  The contract of the program's Show of clashes. Condition: clashes that may be, of sets of at most 1,000 spans; the tables hold what the texts lay in them.
-/
namespace Go.Proofs.YtckioihkknhfpaaGreatDoor.Clash
open Go.Shelf
open Go.Proofs.YtckioihkknhfpaaGreatDoor.Rule (laysJ extraJ info_str)
open Go.Proofs.YtckioihkknhfpaaGreatDoor.Ver (Tabs)
open Go Go.RowKit Go.Lib Go.Proofs.YtckioihkknhfpaaGreatDoor.Span Go.Proofs.YtckioihkknhfpaaGreatDoor.Need Go.Proofs.YtckioihkknhfpaaGreatDoor.Grow Go.Proofs.YtckioihkknhfpaaGreatDoor.Term
open Go.Proofs.YtckioihkknhfpaaGreatDoor.Label (runes fitL)
set_option linter.unusedVariables false
theorem bytes_str (x : ByteArray) : str x.data.toList = x := by simp [str]
theorem str_cat (a : List UInt8) (x : ByteArray) : str (a ++ x.data.toList) = str a ++ x := by rw [← bytes_str x, str_append]; simp [str]
theorem more_eq (s : List UInt8) (l : List Tm) : str (s ++ Lib.joinTail [32, 38, 32] ((l.map showT).map (·.data.toList))) = moreC (str s) l := by
  induction l generalizing s with
  | nil => simp [Lib.joinTail, moreC]
  | cons t r ih =>
    have e : moreC (str s) (t :: r) = moreC (str s ++ wAnd ++ showT t) r := rfl
    have e2 : str s ++ wAnd ++ showT t = str (s ++ [32, 38, 32] ++ (showT t).data.toList) := by
      rw [str_cat, show wAnd = str [32, 38, 32] from rfl, str_append]
    rw [e, e2, ← ih]
    simp [Lib.joinTail]
theorem join_showC {l : List Tm} (h : l ≠ []) : str (Lib.join ((l.map showT).map (·.data.toList)) [32, 38, 32]) = showC l := by
  cases l with
  | nil => exact absurd rfl h
  | cons t r =>
    rw [List.map_cons, List.map_cons, Lib.join_cons, more_eq, bytes_str]
    rfl
theorem joinC_len (l : List Tm) (h : ∀ t ∈ l, (showT t).size ≤ 300000) : (Lib.join ((l.map showT).map (·.data.toList)) [32, 38, 32]).length ≤ 300003 * l.length := by
  cases l with
  | nil => simp [Lib.join]
  | cons t r =>
    rw [List.map_cons, List.map_cons, Lib.join_cons]
    have key : ∀ m : List Tm, (∀ t ∈ m, (showT t).size ≤ 300000) → (Lib.joinTail [32, 38, 32] ((m.map showT).map (·.data.toList))).length ≤ 300003 * m.length := by
      intro m
      induction m with
      | nil => intro _; simp [Lib.joinTail]
      | cons x q ih =>
        intro hm
        have h1 := ih fun y hy => hm y (by simp [hy])
        have h2 : (showT x).data.toList.length ≤ 300000 := by rw [Array.length_toList]; exact hm x (by simp)
        unfold Lib.joinTail at *
        simp only [List.map_cons, List.flatten_cons, List.length_append, List.length_cons, List.length_nil] at *
        omega
    have h1 := key r fun y hy => h y (by simp [hy])
    have h2 : (showT t).data.toList.length ≤ 300000 := by rw [Array.length_toList]; exact h t (by simp)
    simp only [List.length_append, List.length_cons]
    omega
theorem joinC_any (g c : Nat) (l : List Tm) (w : World) (hcells : ∀ (j : Nat) q, l[j]? = some q → w.cell? ⟨g, j, none⟩ = some (.string (showT q))) (hg : g < w.heap.size) (hc : l.length ≤ c) (hl : l.length ≤ 1000) (h0 : l ≠ []) (hs : ∀ t ∈ l, (showT t).size ≤ 300000) :
    Calls Tryz.prog 35 #[.slice (some ⟨g, 0, none⟩) l.length c, .string ⟨#[32, 38, 32]⟩] w fun e w' => e = .returned (.string (showC l)) ∧ Below w.heap.size w w' := by
  have hj := joinC_len l hs
  have h := Any.strings_Join laysJ extraJ g 0 c (l.map showT) ⟨#[32, 38, 32]⟩ w (fun j x hx => by
      rw [List.getElem?_map, Option.map_eq_some_iff] at hx
      obtain ⟨s, hs, rfl⟩ := hx
      rw [Nat.zero_add]
      exact hcells j s hs) hg (by simp; omega) (by simpa using hc) (by show (Lib.join ((l.map showT).map (·.data.toList)) [32, 38, 32]).length ≤ _; omega)
  rw [List.length_map] at h
  refine h.mono ?_
  rintro e w' ⟨rfl, hb⟩
  refine ⟨?_, hb⟩
  have := join_showC h0
  unfold str at this
  rw [← this]
set_option maxHeartbeats 8000000 in
set_option maxRecDepth 100000 in
theorem specShowC : SpecShowC := by
  intro l A n c w h hl hok hset hT
  obtain ⟨i0, hi0, hz0, hz1, hz2⟩ := info_parts info_str
  have hll := h.len
  have hn : n ≤ 1000 := by rw [← hll]; exact hl.1
  have HC := hide (specCheckC l A n c w h hl)
  rw [hok] at HC
  have Hsz := hide (fun t (ht : t ∈ l) => show t.name.size ≤ 1000000000 ∧ t.set.length ≤ 1000 ∧ (showT t).size ≤ 300000 from ⟨hl.2.2 t ht, hset t ht, showT_size (hset t ht)⟩)
  clear hl hok hset
  by_cases hn00 : n = 0
  · subst hn00
    have e : l = [] := List.eq_nil_of_length_eq_zero hll
    subst e
    clear Hsz hll h
    go_enter Tryz.func12, Tryz.ntmps12
    go_wp2_with (go_at_call 8
                 refine HC.out.mono ?_
                 rintro e w3 ⟨rfl, hb3⟩)
    go_ret
    exact ⟨rfl, hb3⟩
  · have h0 : l ≠ [] := fun e => by rw [e] at hll; exact hn00 hll.symm
    have hn1 : 0 < n := by omega
    clear hn00
    have hn0 : ((n : Int) == 0) = false := by rw [beq_eq_false_iff_ne]; omega
    have hmk := run_make_rowN (P := Tryz.prog) 47 9 i0 _ Tryz.underlying47 hi0 hz0 .i64 .i64 n n (Nat.le_refl _) (by rw [hz2]; omega) (by omega)
    rw [hz1] at hmk
    obtain ⟨M, HM⟩ : ∃ M, Hid (M = madeCells (Value.string ByteArray.empty).cells (n * 1)) := ⟨_, hide rfl⟩
    rw [← HM.out] at hmk
    have HMs : Hid (M.size = n) := hide (by rw [HM.out]; simp [size_madeCells])
    have HT := hide hT
    have Hll := hide hll
    have H0 := hide h0
    clear hT hll h0
    go_enter Tryz.func12, Tryz.ntmps12
    go_wp2_with (go_at_call 8
                 refine HC.out.mono ?_
                 rintro e w3 ⟨rfl, hb13⟩
                 have hx3 := h.on hb13)
    have hx4 : TmIn w3 w3.heap.size A n l := hx3
    have hb14 : Below w3.heap.size w3 (w3.alloc (.cells M 9)) := alloc_b _
    have hbs3 := hb13.size
    have hM0 := Blk.new w3 9 M
    clear hx3 HC hmk h
    go_loopw [19] (fun x wr => ∃ (i : Nat) (cs : Array Value), i ≤ n ∧ x = .int .i64 (i : Int) ∧ Blk wr w3.heap.size 9 cs ∧ Hid (cs.size = n) ∧ Hid (∀ (k : Nat) q, k < i → l[k]? = some q → cs[k]? = some (.string (showT q))) ∧ Below w3.heap.size w3 wr) (fun x _ => n - (RowKit.intOf x).toNat)
    case atStart => exact ⟨0, M, by omega, rfl, hM0, HMs, hide (fun k s hk => absurd hk (by omega)), hb14⟩
    case round =>
      obtain ⟨i, cs, hi, rfl, hB, hcs, hall, hbq⟩ := hrel
      have hb := hb13.trans (hbq.mono hbs3)
      have hx := hx4.below hbq
      clear hM0 hx4 hb14 HMs
      by_cases hlt : i < n
      · obtain ⟨ad, q, A', n', c', rfl, hbl, hq, hs, p1, p2, p3⟩ := hx.at_ hlt
        have hcsi : i < cs.size := by rw [hcs.out]; exact hlt
        obtain ⟨hz1', hz2', _⟩ := Hsz.out q (List.mem_of_getElem? hq)
        have hbs := hb.size
        have hglt := hB.lt
        have Hall := hide (fun (k : Nat) t (hk : k < i + 1) (ht : l[k]? = some t) => show (cs.setIfInBounds i (.string (showT q)))[k]? = some (.string (showT t)) by
          by_cases hki : k = i
          · subst hki
            rw [hq] at ht
            injection ht with ht
            subst ht
            simp [hcsi]
          · rw [Array.getElem?_setIfInBounds_ne (fun e => hki e.symm)]
            exact hall.out k t (by omega) ht)
        obtain ⟨v0, hv0⟩ : ∃ v, cs[i]? = some v := ⟨_, Array.getElem?_eq_getElem hcsi⟩
        have hsl := hs.1
        obtain ⟨wq, hwq⟩ : ∃ wq, wq = wr.alloc (.cells #[.string q.name, .slice A' n' c', .bool q.none] 30) := ⟨_, rfl⟩
        have hBq : Blk wq wr.heap.size 30 #[.string q.name, .slice A' n' c', .bool q.none] := by rw [hwq]; exact Blk.new _ _ _
        have hB2 : Blk wq w3.heap.size 9 cs := by rw [hwq]; exact hB.alloc _
        have hbwq : Below wr.heap.size wr wq := by rw [hwq]; exact alloc_b _
        have Hsh := hide (showT_any q.name q.set q.none A' n' c' wq (((hs.more hbq.size).below hbwq).more hbwq.size) (by omega) hz1' (HT.out.below (hb.trans (hbwq.mono hbs))))
        unfold Tells at Hsh
        rw [show showT ⟨q.name, q.set, q.none⟩ = showT q from rfl] at Hsh
        clear hall hq hs hx hsl hz1' hz2'
        obtain ⟨nm, s, z⟩ := q
        simp only [] at p1 p2 p3 hwq hBq Hsh Hall
        generalize showT ⟨nm, s, z⟩ = sh at *
        have k0 := (hBq.cell 0).trans (show (#[Value.string nm, .slice A' n' c', .bool z] : Array Value)[0]? = some (.string nm) from rfl)
        have k1 := (hBq.cell 1).trans (show (#[Value.string nm, .slice A' n' c', .bool z] : Array Value)[1]? = some (.slice A' n' c') from rfl)
        have k2 := (hBq.cell 2).trans (show (#[Value.string nm, .slice A' n' c', .bool z] : Array Value)[2]? = some (.bool z) from rfl)
        have hi1 : (0 : Int) ≤ (i : Int) := by omega
        have hi2 : (i : Int) < (n : Int) := by omega
        have hqs := hbwq.size
        go_upto_region 9 with fail
        try rw [← hwq]
        clear hwq
        go_wp2_with (go_at_call 34
                     refine Hsh.out.mono ?_
                     rintro e w5 ⟨rfl, hb5⟩
                     have hB5 := hB2.below hb5 hB2.lt
                     have k5 := (hB5.cell i).trans hv0
                     have f5 := hB5.frozen i)
        have hb01 := (hbq.trans (hbwq.mono hbq.size)).trans (hb5.mono (Nat.le_trans hbq.size hbwq.size))
        go_roundw
        case rel => exact ⟨i + 1, cs.setIfInBounds i (.string sh), by omega, by go_num, hB5.set_ i _, hide (by simpa using hcs.out), Hall, hb01.setCell (by simp) _⟩
        case measure => simp [RowKit.intOf]; omega
      · have hin : i = n := by omega
        subst hin
        have hj := hide (joinC_any w3.heap.size i l wr (fun j s hs => by
          rw [hB.cell]
          exact hall.out j s (by rw [← Hll.out]; exact (List.getElem?_eq_some_iff.1 hs).1) hs) hB.lt (by have := Hll.out; omega) (by have := Hll.out; omega) H0.out (fun t ht => (Hsz.out t ht).2.2))
        rw [Hll.out] at hj
        clear hall hcs
        go_wp2_with (go_at_call 35
                     refine hj.out.mono ?_
                     rintro e w5 ⟨rfl, hb5⟩)
        go_ret
        exact ⟨rfl, hb.trans (hb5.mono hb.size)⟩
end Go.Proofs.YtckioihkknhfpaaGreatDoor.Clash

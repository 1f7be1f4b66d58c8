/-
  Some texts of this claim, one behind the other: ManiNewestW. What each proves, and its condition, stands at its head.
-/
import Derived.Test.YtajgjkjhaafnfaaZ12
import Derived.Test.YtajgjkjhaafnfaaZ16
import Derived.Test.YtajgjkjhaafnfaaZ21
import Derived.Test.YtajgjkjhaafnfaaZ22
import Derived.Test.YtajgjkjhaafnfaaZ15
/-
  The walk of ManiNewest. Condition: the slices read as releases and spans; lengths as a row bounds them.
-/
namespace Go.Proofs.Ytajgjkjhaafnfaa.Mani
open Go Go.RowKit Go.Lib Go.Proofs.Ytajgjkjhaafnfaa.Span Go.Proofs.Ytajgjkjhaafnfaa.Need Go.Proofs.Ytajgjkjhaafnfaa.Grow
set_option linter.unusedVariables false
/-- The relation 'a release was found'. -/
def foundR : Rel := fun w v => ∃ z A n c, v = .tuple #[.agg #[.int .i64 z, .slice A n c], .bool true]
theorem foundR_stable : ∀ w w' v, Below w.heap.size w w' → foundR w v → foundR w' v := fun _ _ _ _ h => h
/-- The relation 'a block of the call's own'. -/
def boxR (B : Nat) : Rel := fun w v => ∃ g, v = .pointer (some ⟨g, 0, none⟩) ∧ B ≤ g ∧ Blk w g 33 #[.int .i64 0, .slice none 0 0]
theorem boxR_stable (B : Nat) : ∀ w w' v, Below w.heap.size w w' → boxR B w v → boxR B w' v := fun _ _ _ hb ⟨g, hv, hB, hk⟩ => ⟨g, hv, hB, hk.below hb hk.lt⟩
def storesR (B : Nat) : Wr := fun w1 _ w2 => ∃ g z A n c, B ≤ g ∧ w2 = (w1.setCell ⟨g, 0, none⟩ (.int .i64 z)).setCell ⟨g, 1, none⟩ (.slice A n c)
theorem ptr_inj {g g' : Nat} (h : Value.pointer (some ⟨g, 0, none⟩) = .pointer (some ⟨g', 0, none⟩)) : g = g' := by
  injection h with h
  injection h with h
  injection h with h
theorem ptr_def (p : Option Addr) : Value.pointer p ≠ undef := by intro h; cases h
set_option maxHeartbeats 8000000 in
set_option maxRecDepth 100000 in
theorem newest_la (nm : ByteArray) (l : List Rl) (s : List S) (A : Option Addr) (n c : Nat) (Ai : Option Addr) (ni ci : Nat) (w : World) (h : RlOn w A n l) (hs : SpOn w Ai ni s)
    (hnm : nm.size ≤ maxLen) (hn : n ≤ maxLen) (hq : ∀ q ∈ l, q.2.length ≤ maxLen)
    (g1 : largeM nm l = true) :
    Calls Try.prog 5 #[.agg #[.string nm, .slice A n c], .slice Ai ni ci] w fun e w' => e = .returned (.bool true) ∧ Below w.heap.size w w' := by
  have HL : Hid (∀ wx, Below w.heap.size w wx → Calls Try.prog 6 #[.agg #[.string nm, .slice A n c]] wx fun e w' => e = .returned (.bool true) ∧ Below wx.heap.size wx w') := hide (fun wx hbx => by
    have := largeM_any nm l A n c wx (h.on hbx) hq hn hnm; rw [g1] at this
    first | (unfold Tells at this; exact this) | exact this)
  have HW := hide (fun wx => awakeM_any wx)
  unfold Tells at HW
  have hbw : Below w.heap.size w (w.alloc (.cells #[.string nm, .slice A n c] 24)) := alloc_b _
  have bk := Blk.new w 24 #[.string nm, .slice A n c]
  clear h hs hq hn hnm
  go_enter Try.func5, Try.ntmps5
  go_wp2_with (first
    | (go_at_call 7
       refine (HW.out _).mono ?_
       rintro e wn ⟨rfl, hbx⟩
       have bk := bk.below hbx bk.lt
       have k0 := bk.cell 0
       have k1 := bk.cell 1
       try have h3 := SpOn.on h3 hbx
       try have h4 := IntOn.on h4 hbx
       have hbw := hbw.trans (hbx.mono hbw.size))
    | (go_at_call 6
       refine (HL.out _ hbw).mono ?_
       rintro e wn ⟨rfl, hbx⟩
       have bk := bk.below hbx bk.lt
       have k0 := bk.cell 0
       have k1 := bk.cell 1
       try have h3 := SpOn.on h3 hbx
       try have h4 := IntOn.on h4 hbx
       have hbw := hbw.trans (hbx.mono hbw.size)))
  go_ret
  exact ⟨rfl, hbw⟩
set_option maxHeartbeats 8000000 in
set_option maxRecDepth 100000 in
theorem newest_ch (nm : ByteArray) (l : List Rl) (s : List S) (A : Option Addr) (n c : Nat) (Ai : Option Addr) (ni ci : Nat) (w : World) (h : RlOn w A n l) (hs : SpOn w Ai ni s)
    (hnm : nm.size ≤ maxLen) (hn : n ≤ maxLen) (hq : ∀ q ∈ l, q.2.length ≤ maxLen)
    (g1 : largeM nm l = false) (g2 : okM nm l = false) :
    Calls Try.prog 5 #[.agg #[.string nm, .slice A n c], .slice Ai ni ci] w fun e w' => e = .returned (.bool true) ∧ Below w.heap.size w w' := by
  obtain ⟨hsz, hf⟩ := fineR_of g1
  have HL : Hid (∀ wx, Below w.heap.size w wx → Calls Try.prog 6 #[.agg #[.string nm, .slice A n c]] wx fun e w' => e = .returned (.bool false) ∧ Below wx.heap.size wx w') := hide (fun wx hbx => by
    have := largeM_any nm l A n c wx (h.on hbx) hq hn hnm; rw [g1] at this
    first | (unfold Tells at this; exact this) | exact this)
  have HC : Hid (∀ wx, Below w.heap.size w wx → Calls Try.prog 8 #[.agg #[.string nm, .slice A n c]] wx fun e w' => e = .returned (.bool false) ∧ Below wx.heap.size wx w') := hide (fun wx hbx => by
    have := checkM_any nm l A n c wx (h.on hbx) hf (by omega); rw [g2] at this
    first | (unfold Tells at this; exact this) | exact this)
  have HW := hide (fun wx => awakeM_any wx)
  unfold Tells at HW
  have hbw : Below w.heap.size w (w.alloc (.cells #[.string nm, .slice A n c] 24)) := alloc_b _
  have bk := Blk.new w 24 #[.string nm, .slice A n c]
  clear h hs hq hf hn hnm hsz
  go_enter Try.func5, Try.ntmps5
  go_wp2_with (first
    | (go_at_call 7
       refine (HW.out _).mono ?_
       rintro e wn ⟨rfl, hbx⟩
       have bk := bk.below hbx bk.lt
       have k0 := bk.cell 0
       have k1 := bk.cell 1
       try have h3 := SpOn.on h3 hbx
       try have h4 := IntOn.on h4 hbx
       have hbw := hbw.trans (hbx.mono hbw.size))
    | (go_at_call 8
       refine (HC.out _ hbw).mono ?_
       rintro e wn ⟨rfl, hbx⟩
       have bk := bk.below hbx bk.lt
       have k0 := bk.cell 0
       have k1 := bk.cell 1
       try have h3 := SpOn.on h3 hbx
       try have h4 := IntOn.on h4 hbx
       have hbw := hbw.trans (hbx.mono hbw.size))
    | (go_at_call 6
       refine (HL.out _ hbw).mono ?_
       rintro e wn ⟨rfl, hbx⟩
       have bk := bk.below hbx bk.lt
       have k0 := bk.cell 0
       have k1 := bk.cell 1
       try have h3 := SpOn.on h3 hbx
       try have h4 := IntOn.on h4 hbx
       have hbw := hbw.trans (hbx.mono hbw.size)))
  go_ret
  exact ⟨rfl, hbw⟩
set_option maxHeartbeats 8000000 in
set_option maxRecDepth 100000 in
theorem newest_in (nm : ByteArray) (l : List Rl) (s : List S) (A : Option Addr) (n c : Nat) (Ai : Option Addr) (ni ci : Nat) (w : World) (h : RlOn w A n l) (hs : SpOn w Ai ni s)
    (hnm : nm.size ≤ maxLen) (hn : n ≤ maxLen) (hq : ∀ q ∈ l, q.2.length ≤ maxLen)
    (g1 : largeM nm l = false) (g2 : okM nm l = true) (g3 : 40 < ni) :
    Calls Try.prog 5 #[.agg #[.string nm, .slice A n c], .slice Ai ni ci] w fun e w' => e = .returned (.bool true) ∧ Below w.heap.size w w' := by
  obtain ⟨hsz, hf⟩ := fineR_of g1
  have HL : Hid (∀ wx, Below w.heap.size w wx → Calls Try.prog 6 #[.agg #[.string nm, .slice A n c]] wx fun e w' => e = .returned (.bool false) ∧ Below wx.heap.size wx w') := hide (fun wx hbx => by
    have := largeM_any nm l A n c wx (h.on hbx) hq hn hnm; rw [g1] at this
    first | (unfold Tells at this; exact this) | exact this)
  have HC : Hid (∀ wx, Below w.heap.size w wx → Calls Try.prog 8 #[.agg #[.string nm, .slice A n c]] wx fun e w' => e = .returned (.bool true) ∧ Below wx.heap.size wx w') := hide (fun wx hbx => by
    have := checkM_any nm l A n c wx (h.on hbx) hf (by omega); rw [g2] at this
    first | (unfold Tells at this; exact this) | exact this)
  have HW := hide (fun wx => awakeM_any wx)
  unfold Tells at HW
  have hbw : Below w.heap.size w (w.alloc (.cells #[.string nm, .slice A n c] 24)) := alloc_b _
  have bk := Blk.new w 24 #[.string nm, .slice A n c]
  have g3z : (40 : Int) < (ni : Int) := by omega
  clear h hs hq hf g3 hn hnm hsz
  go_enter Try.func5, Try.ntmps5
  go_wp2_with (first
    | (go_at_call 7
       refine (HW.out _).mono ?_
       rintro e wn ⟨rfl, hbx⟩
       have bk := bk.below hbx bk.lt
       have k0 := bk.cell 0
       have k1 := bk.cell 1
       try have h3 := SpOn.on h3 hbx
       try have h4 := IntOn.on h4 hbx
       have hbw := hbw.trans (hbx.mono hbw.size))
    | (go_at_call 8
       refine (HC.out _ hbw).mono ?_
       rintro e wn ⟨rfl, hbx⟩
       have bk := bk.below hbx bk.lt
       have k0 := bk.cell 0
       have k1 := bk.cell 1
       try have h3 := SpOn.on h3 hbx
       try have h4 := IntOn.on h4 hbx
       have hbw := hbw.trans (hbx.mono hbw.size))
    | (go_at_call 6
       refine (HL.out _ hbw).mono ?_
       rintro e wn ⟨rfl, hbx⟩
       have bk := bk.below hbx bk.lt
       have k0 := bk.cell 0
       have k1 := bk.cell 1
       try have h3 := SpOn.on h3 hbx
       try have h4 := IntOn.on h4 hbx
       have hbw := hbw.trans (hbx.mono hbw.size)))
  go_ret
  exact ⟨rfl, hbw⟩
set_option maxHeartbeats 8000000 in
set_option maxRecDepth 100000 in
theorem newest_se (nm : ByteArray) (l : List Rl) (s : List S) (A : Option Addr) (n c : Nat) (Ai : Option Addr) (ni ci : Nat) (w : World) (h : RlOn w A n l) (hs : SpOn w Ai ni s)
    (hnm : nm.size ≤ maxLen) (hn : n ≤ maxLen) (hq : ∀ q ∈ l, q.2.length ≤ maxLen)
    (g1 : largeM nm l = false) (g2 : okM nm l = true) (g3 : ¬ 40 < ni) (g4 : isSet (-1) s = false) :
    Calls Try.prog 5 #[.agg #[.string nm, .slice A n c], .slice Ai ni ci] w fun e w' => e = .returned (.bool true) ∧ Below w.heap.size w w' := by
  obtain ⟨hsz, hf⟩ := fineR_of g1
  have HL : Hid (∀ wx, Below w.heap.size w wx → Calls Try.prog 6 #[.agg #[.string nm, .slice A n c]] wx fun e w' => e = .returned (.bool false) ∧ Below wx.heap.size wx w') := hide (fun wx hbx => by
    have := largeM_any nm l A n c wx (h.on hbx) hq hn hnm; rw [g1] at this
    first | (unfold Tells at this; exact this) | exact this)
  have HC : Hid (∀ wx, Below w.heap.size w wx → Calls Try.prog 8 #[.agg #[.string nm, .slice A n c]] wx fun e w' => e = .returned (.bool true) ∧ Below wx.heap.size wx w') := hide (fun wx hbx => by
    have := checkM_any nm l A n c wx (h.on hbx) hf (by omega); rw [g2] at this
    first | (unfold Tells at this; exact this) | exact this)
  have HS : Hid (∀ wx, Below w.heap.size w wx → Calls Try.prog 27 #[.slice Ai ni ci] wx fun e w' => e = .returned (.bool false) ∧ Below wx.heap.size wx w') := hide (fun wx hbx => by
    have := check_on (c := ci) (hs.on hbx) (by omega); rw [g4] at this
    first | (unfold Tells at this; exact this) | exact this)
  have HW := hide (fun wx => awakeM_any wx)
  unfold Tells at HW
  have hbw : Below w.heap.size w (w.alloc (.cells #[.string nm, .slice A n c] 24)) := alloc_b _
  have bk := Blk.new w 24 #[.string nm, .slice A n c]
  have g3z : ¬ (40 : Int) < (ni : Int) := by omega
  clear h hs hq hf g3 hn hnm hsz
  go_enter Try.func5, Try.ntmps5
  go_wp2_with (first
    | (go_at_call 7
       refine (HW.out _).mono ?_
       rintro e wn ⟨rfl, hbx⟩
       have bk := bk.below hbx bk.lt
       have k0 := bk.cell 0
       have k1 := bk.cell 1
       try have h3 := SpOn.on h3 hbx
       try have h4 := IntOn.on h4 hbx
       have hbw := hbw.trans (hbx.mono hbw.size))
    | (go_at_call 27
       refine (HS.out _ hbw).mono ?_
       rintro e wn ⟨rfl, hbx⟩
       have bk := bk.below hbx bk.lt
       have k0 := bk.cell 0
       have k1 := bk.cell 1
       try have h3 := SpOn.on h3 hbx
       try have h4 := IntOn.on h4 hbx
       have hbw := hbw.trans (hbx.mono hbw.size))
    | (go_at_call 8
       refine (HC.out _ hbw).mono ?_
       rintro e wn ⟨rfl, hbx⟩
       have bk := bk.below hbx bk.lt
       have k0 := bk.cell 0
       have k1 := bk.cell 1
       try have h3 := SpOn.on h3 hbx
       try have h4 := IntOn.on h4 hbx
       have hbw := hbw.trans (hbx.mono hbw.size))
    | (go_at_call 6
       refine (HL.out _ hbw).mono ?_
       rintro e wn ⟨rfl, hbx⟩
       have bk := bk.below hbx bk.lt
       have k0 := bk.cell 0
       have k1 := bk.cell 1
       try have h3 := SpOn.on h3 hbx
       try have h4 := IntOn.on h4 hbx
       have hbw := hbw.trans (hbx.mono hbw.size)))
  go_ret
  exact ⟨rfl, hbw⟩
set_option maxHeartbeats 8000000 in
set_option maxRecDepth 100000 in
theorem newest_main (nm : ByteArray) (l : List Rl) (s : List S) (A : Option Addr) (n c : Nat) (Ai : Option Addr) (ni ci : Nat) (w : World) (h : RlOn w A n l) (hs : SpOn w Ai ni s)
    (hnm : nm.size ≤ maxLen) (hn : n ≤ maxLen) (hq : ∀ q ∈ l, q.2.length ≤ maxLen)
    (g1 : largeM nm l = false) (g2 : okM nm l = true) (g3 : ¬ 40 < ni) (g4 : isSet (-1) s = true) :
    Calls Try.prog 5 #[.agg #[.string nm, .slice A n c], .slice Ai ni ci] w fun e w' => e = .returned (.bool true) ∧ Below w.heap.size w w' := by
  obtain ⟨hsz, hf⟩ := fineR_of g1
  obtain ⟨hl8, hr, hok⟩ := okM_parts g2
  have hp : ∀ q ∈ l, 0 ≤ q.1 ∧ q.1 < 1000000000 := fun q hq => ⟨(hok q hq).1, (hok q hq).2.1⟩
  have hn8 : n ≤ 30 := by rw [← h.len]; omega
  have hni : ni ≤ 1000000001 := by omega
  obtain ⟨hmost, hsome⟩ := newest_most (s := s) hp hr
  have hcnt := down_count (s := s) hp hr
  have hLn : (downS l s).length ≤ 8 := Nat.le_trans (downS_length l s) hl8
  have hrng : ∀ x ∈ bothS l s, -1 < x.2 ∧ x.2 ≤ 1000000000 := fun x hx => by have := mem_range (both_set l s) x hx; omega
  have HL : Hid (∀ wx, Below w.heap.size w wx → Calls Try.prog 6 #[.agg #[.string nm, .slice A n c]] wx fun e w' => e = .returned (.bool false) ∧ Below wx.heap.size wx w') := hide (fun wx hbx => by
    have := largeM_any nm l A n c wx (h.on hbx) hq hn hnm; rw [g1] at this
    first | (unfold Tells at this; exact this) | exact this)
  have HC : Hid (∀ wx, Below w.heap.size w wx → Calls Try.prog 8 #[.agg #[.string nm, .slice A n c]] wx fun e w' => e = .returned (.bool true) ∧ Below wx.heap.size wx w') := hide (fun wx hbx => by
    have := checkM_any nm l A n c wx (h.on hbx) hf (by omega); rw [g2] at this
    first | (unfold Tells at this; exact this) | exact this)
  have HS : Hid (∀ wx, Below w.heap.size w wx → Calls Try.prog 27 #[.slice Ai ni ci] wx fun e w' => e = .returned (.bool true) ∧ Below wx.heap.size wx w') := hide (fun wx hbx => by
    have := check_on (c := ci) (hs.on hbx) (by omega); rw [g4] at this
    first | (unfold Tells at this; exact this) | exact this)
  have HW := hide (fun wx => awakeM_any wx)
  unfold Tells at HW
  have HV : Hid (∀ wx, Below w.heap.size w wx → Calls Try.prog 18 #[.agg #[.string nm, .slice A n c]] wx fun e w' => ∃ A n c, e = .returned (.slice A n c) ∧ SpOn w' A n (versS l) ∧ Below wx.heap.size wx w') := hide (fun wx hbx => by
    have := versM_any nm l A n c wx (h.on hbx) hn8 hp
    first | exact this | (unfold Makes at this; exact this) | (unfold MakesI at this; exact this))
  have HM : Hid (∀ wx A2 n2 c2, Below w.heap.size w wx → SpOn wx A2 n2 (versS l) → Calls Try.prog 28 #[.slice A2 n2 c2, .slice Ai ni ci] wx fun e w' => ∃ A n c, e = .returned (.slice A n c) ∧ SpOn w' A n (bothS l s) ∧ Below wx.heap.size wx w') := hide (fun wx A2 n2 c2 hbx h2 => by
    have := meet_on (c := c2) (c' := ci) h2 (hs.on hbx) (vers_set l) g4
    first | exact this | (unfold Makes at this; exact this) | (unfold MakesI at this; exact this))
  have HN : Hid (∀ wx, Below w.heap.size w wx → Calls Try.prog 26 #[.agg #[.string nm, .slice A n c], .slice Ai ni ci] wx fun e w' => e = .returned (.tuple #[.int .i64 ((downS l s).headD 0), .bool (decide (downS l s ≠ []))]) ∧ Below wx.heap.size wx w') := hide (fun wx hbx => by
    have := newestM_any nm l A n c Ai ni ci s wx (h.on hbx) hn8 (hs.on hbx) hni
    first | (unfold Tells at this; exact this) | exact this)
  have HD : Hid (∀ wx, Below w.heap.size w wx → Calls Try.prog 24 #[.agg #[.string nm, .slice A n c], .slice Ai ni ci] wx fun e w' => ∃ A n c, e = .returned (.slice A n c) ∧ IntOn w' A n (downS l s) ∧ Below wx.heap.size wx w') := hide (fun wx hbx => by
    have := downM_any nm l A n c Ai ni ci s wx (h.on hbx) hn8 (hs.on hbx) hni
    first | exact this | (unfold Makes at this; exact this) | (unfold MakesI at this; exact this))
  have HMo : Hid (∀ wx A3 n3 c3, SpOn wx A3 n3 (bothS l s) → Calls Try.prog 29 #[.slice A3 n3 c3] wx fun e w' => e = .returned (.tuple #[.int .i64 ((downS l s).headD 0), .bool (decide (downS l s ≠ []))]) ∧ Below wx.heap.size wx w') := hide (fun wx A3 n3 c3 h3 => by
    have := tells_same (most_any (c := c3) wx h3 (by have := SpOn.le h3 (both_set l s); omega) hrng); have e3 : n3 = (bothS l s).length := SpOn.len h3; subst e3; rw [hmost, hsome] at this
    first | (unfold Tells at this; exact this) | exact this)
  have HCt : Hid (∀ wx A3 n3 c3, SpOn wx A3 n3 (bothS l s) → Calls Try.prog 31 #[.slice A3 n3 c3] wx fun e w' => e = .returned (.int .i64 ((downS l s).length : Int)) ∧ Below wx.heap.size wx w') := hide (fun wx A3 n3 c3 h3 => by
    have := count_on (c := c3) h3 (both_set l s); rw [hcnt] at this
    first | (unfold Tells at this; exact this) | exact this)
  have HG : Hid (∀ wx (x : Int), Below w.heap.size w wx → x ∈ downS l s → Calls Try.prog 14 #[.agg #[.string nm, .slice A n c], .int .i64 x] wx fun e w' => ∃ z A n c, e = .returned (.tuple #[.agg #[.int .i64 z, .slice A n c], .bool true]) ∧ Below wx.heap.size wx w') := hide (fun wx x hbx hx => by
    have := getM_any x nm l A n c wx (h.on hbx) hf
    unfold Gets at this
    rw [down_get hx] at this
    exact this.mono fun e w' ⟨A5, n5, c5, he, _, hb⟩ => ⟨_, A5, n5, c5, he, hb⟩)
  have HH : Hid (∀ wx (x : Int) A3 n3 c3, SpOn wx A3 n3 (bothS l s) → x ∈ downS l s → Calls Try.prog 30 #[.slice A3 n3 c3, .int .i64 x] wx fun e w' => e = .returned (.bool true) ∧ Below wx.heap.size wx w') := hide (fun wx x A3 n3 c3 h3 hx => by
    have := has_on (c := c3) x h3 (SpOn.le h3 (both_set l s))
    rw [(down_both hp).1 hx] at this
    unfold Tells at this
    exact this)
  have Hst := hide (fun j x y => @down_step l s hr j x y)
  have Hmem := hide (fun (j : Nat) (x : Int) (hx : (downS l s)[j]? = some x) => List.mem_of_getElem? hx)
  have hbw : Below w.heap.size w (w.alloc (.cells #[.string nm, .slice A n c] 24)) := alloc_b _
  have bk := Blk.new w 24 #[.string nm, .slice A n c]
  have g3z : ¬ (40 : Int) < (ni : Int) := by omega
  clear h hs hq hn hnm hf g3 hmost hsome hcnt hrng hp hok hr hl8 hn8 hni g1 g2 g4 hsz
  generalize bothS l s = Bo at *
  generalize versS l = Ve at *
  generalize downS l s = L at *
  generalize (L.headD 0) = hd at *
  generalize decide (L ≠ []) = nz at *
  have e1 : (hd == hd) = true := beq_self_eq_true hd
  have e2 : (nz == nz) = true := beq_self_eq_true nz
  go_enter Try.func5, Try.ntmps5
  go_wp2_with (first
    | (go_at_call 24
       refine (HD.out _ hbw).mono ?_
       rintro e wn ⟨A4, n4, c4, rfl, h4, hbx⟩
       have bk := bk.below hbx bk.lt
       have k0 := bk.cell 0
       have k1 := bk.cell 1
       try have h3 := SpOn.on h3 hbx
       have hbw := hbw.trans (hbx.mono hbw.size))
    | (go_at_call 29
       refine (HMo.out _ _ _ _ h3).mono ?_
       rintro e wn ⟨rfl, hbx⟩
       have bk := bk.below hbx bk.lt
       have k0 := bk.cell 0
       have k1 := bk.cell 1
       try have h3 := SpOn.on h3 hbx
       try have h4 := IntOn.on h4 hbx
       have hbw := hbw.trans (hbx.mono hbw.size))
    | (go_at_call 26
       refine (HN.out _ hbw).mono ?_
       rintro e wn ⟨rfl, hbx⟩
       have bk := bk.below hbx bk.lt
       have k0 := bk.cell 0
       have k1 := bk.cell 1
       try have h3 := SpOn.on h3 hbx
       try have h4 := IntOn.on h4 hbx
       have hbw := hbw.trans (hbx.mono hbw.size))
    | (go_at_call 28
       refine (HM.out _ _ _ _ hbw h2).mono ?_
       rintro e wn ⟨A3, n3, c3, rfl, h3, hbx⟩
       have bk := bk.below hbx bk.lt
       have k0 := bk.cell 0
       have k1 := bk.cell 1
       clear h2
       have hbw := hbw.trans (hbx.mono hbw.size))
    | (go_at_call 18
       refine (HV.out _ hbw).mono ?_
       rintro e wn ⟨A2, n2, c2, rfl, h2, hbx⟩
       have bk := bk.below hbx bk.lt
       have k0 := bk.cell 0
       have k1 := bk.cell 1
       try have h3 := SpOn.on h3 hbx
       try have h4 := IntOn.on h4 hbx
       have hbw := hbw.trans (hbx.mono hbw.size))
    | (go_at_call 27
       refine (HS.out _ hbw).mono ?_
       rintro e wn ⟨rfl, hbx⟩
       have bk := bk.below hbx bk.lt
       have k0 := bk.cell 0
       have k1 := bk.cell 1
       try have h3 := SpOn.on h3 hbx
       try have h4 := IntOn.on h4 hbx
       have hbw := hbw.trans (hbx.mono hbw.size))
    | (go_at_call 8
       refine (HC.out _ hbw).mono ?_
       rintro e wn ⟨rfl, hbx⟩
       have bk := bk.below hbx bk.lt
       have k0 := bk.cell 0
       have k1 := bk.cell 1
       try have h3 := SpOn.on h3 hbx
       try have h4 := IntOn.on h4 hbx
       have hbw := hbw.trans (hbx.mono hbw.size))
    | (go_at_call 6
       refine (HL.out _ hbw).mono ?_
       rintro e wn ⟨rfl, hbx⟩
       have bk := bk.below hbx bk.lt
       have k0 := bk.cell 0
       have k1 := bk.cell 1
       try have h3 := SpOn.on h3 hbx
       try have h4 := IntOn.on h4 hbx
       have hbw := hbw.trans (hbx.mono hbw.size)))
  have hn4 : L.length = n4 := h4.len
  have hn48 : n4 ≤ 8 := by omega
  clear HV HM HN HMo HD HL HC HS
  go_loopw [11] (fun v wr => ∃ i : Nat, i ≤ n4 ∧ v = .int .i64 (i : Int) ∧ Below wn.heap.size wn wr) (fun v _ => n4 - (RowKit.intOf v).toNat)
  case atStart => exact ⟨0, by omega, rfl, Below.refl _ _⟩
  case round =>
    obtain ⟨i, hi, rfl, hb⟩ := hrel
    have hbs := hb.size
    have bk1 := bk.below hb bk.lt
    have h31 := SpOn.on h3 hb
    have h41 := IntOn.on h4 hb
    have hbw1 := hbw.trans (hb.mono hbw.size)
    have hbs1 := hbw1.size
    by_cases hlt : i < n4
    · obtain ⟨ad, x, rfl, hadb, hx, hc⟩ := ics_at h41 hlt
      have hxm := Hmem.out i x hx
      have q0 := cell_reg_ ((bk1.cell 0).trans rfl) bk1.lt
      have q1 := cell_reg_ ((bk1.cell 1).trans rfl) bk1.lt
      have q2 := cell_reg_ hc (by rw [block_of_add]; exact hadb)
      have hi1 : (0 : Int) ≤ (i : Int) := by omega
      have hi2 : (i : Int) < (n4 : Int) := by omega
      go_upto_region 10 with fail
      refine Grow.L.wp_region_grow_l [(62, foundR), (12, boxR wr.heap.size)] [62, 12] 10 [8] (storesR wr.heap.size) _
        (by kernel_rfl) (by kernel_rfl) rfl (by kernel_rfl) (by kernel_rfl) (by kernel_rfl) rfl rfl (by kernel_rfl) (by kernel_rfl) ⟨foundR_stable, boxR_stable _, trivial⟩ ?_
      repeat (first
        | (refine Grow.L.lexK_quiet (by decide) rfl rfl rfl (fun K hK => ?_); unfold Reg; go_big_quiet_op; refine hK _ ?_; clear hK K)
        | (refine Grow.L.lexK_rel (by decide) rfl rfl (fun w' hb9 hK => ?_) (fun v w' hb9 hv => ?_)
           · unfold grows
             go_simp
             go_at_call 14
             refine (HG.out w' x (hbw1.trans (hb9.mono hbs1)) hxm).mono ?_
             rintro e w5 ⟨z5, A5, n5, c5, rfl, hb5⟩
             exact ⟨_, rfl, hb5, z5, A5, n5, c5, rfl⟩
           obtain ⟨z6, A6, n6, c6, rfl⟩ := hv
           simp only [Act.put, List.setIfInBounds_toArray, List.set_cons_zero, List.set_cons_succ])
        | (refine Grow.L.lexK_rel (by decide) rfl rfl (fun w' hb9 hK => ?_) (fun v w' hb9 hv => ?_)
           · unfold grows
             go_simp
             exact ⟨alloc_b _, _, rfl, hb9.size, Blk.new _ _ _⟩
           obtain ⟨g7, rfl, hg7, hk7⟩ := hv
           simp only [Act.put, List.setIfInBounds_toArray, List.set_cons_zero, List.set_cons_succ])
        | (refine Grow.L.lexK_wr rfl rfl (fun w' hb9 hK => ?_) (fun v w' w'' hb9 hv => ?_)
           · obtain ⟨g8, e8, hg8, hk8⟩ := hK.at_ 12 rfl (ptr_def _)
             have e9 : Value.pointer (some ⟨g7, 0, none⟩) = .pointer (some ⟨g8, 0, none⟩) := e8
             have e10 : g7 = g8 := ptr_inj e9
             rw [← e10] at hg8 hk8
             clear e8 e9 e10 hK
             have k0 := hk8.cell 0
             have k1 := hk8.cell 1
             have f0 := hk8.frozen 0
             have f1 := hk8.frozen 1
             unfold grows
             go_simp
             exact ⟨g7, _, _, _, _, hg8, rfl⟩
           simp only [Act.put])
        | (refine Grow.L.lexK_late (by decide) rfl rfl (fun K hK => ?_); go_big_quiet_op; refine hK _ ?_; clear hK K))
      refine Grow.L.lexK_nil (fun w9 w1 v hC9 hall hS _ => ?_)
      have hb9 := reg_iff.1 hC9
      obtain ⟨g8, z8, A8, n8, c8, hg8, rfl⟩ := hS
      have hb10 := below_two hb9 hg8 (.int .i64 z8) (.slice A8 n8 c8)
      clear hall q0 q1 q2 hC9 hb9
      obtain ⟨w10, hw10⟩ : ∃ w10, w10 = (w1.setCell ⟨g8, 0, none⟩ (.int .i64 z8)).setCell ⟨g8, 1, none⟩ (.slice A8 n8 c8) := ⟨_, rfl⟩
      rw [← hw10] at hb10 ⊢
      clear hw10
      have hbs10 := hb10.size
      have c10 := (hb10.cell (p := ad.add i) (by rw [block_of_add]; exact hadb)).trans hc
      have q2 := cell_reg_ c10 (by rw [block_of_add]; omega)
      have h32 := SpOn.on h31 hb10
      have hbw10 := hbw1.trans (hb10.mono hbs1)
      have hbs11 := hbw10.size
      by_cases h0 : i = 0
      · have h0z : ¬ 0 < i := by omega
        have h0y : ¬ (0 : Int) < (i : Int) := by omega
        clear h0
        go_upto_region 11 with fail
        refine wp_region_grow [(73, isC (.bool true))] [73]
          (by kernel_rfl) (by kernel_rfl) rfl (by kernel_rfl) (by kernel_rfl) ⟨isC_stable _, trivial⟩ ?_
        repeat (first
          | (refine lex_skip rfl ?_; simp only [Act.put, List.setIfInBounds_toArray, List.set_cons_zero, List.set_cons_succ])
          | (refine lex_quiet rfl rfl rfl (fun K hK => ?_); unfold Reg; go_big_quiet_op; refine hK _ ?_; clear hK K)
          | (refine lex_rel rfl rfl (fun w' hb9 hK => ?_) (fun v w' hb9 hv => ?_)
             · unfold grows
               go_simp
               go_at_call 30
               exact call_isC (HH.out w' x _ _ _ (SpOn.on h32 hb9) hxm)
             obtain rfl := hv
             simp only [Act.put, List.setIfInBounds_toArray, List.set_cons_zero, List.set_cons_succ]))
        refine lex_nil (fun w9 hC9 _ => ?_)
        have hb9 := reg_iff.1 hC9
        clear hC9
        clear q2
        go_wp2
        go_roundw
        case rel => exact ⟨i + 1, by omega, by go_num, hb.trans ((hb10.trans (hb9.mono hbs10)).mono hbs)⟩
        case measure => simp [RowKit.intOf]; omega
      · obtain ⟨j, hj⟩ : ∃ j, i = j + 1 := ⟨i - 1, by omega⟩
        obtain ⟨ad', y, e', _, hy, hcy⟩ := ics_at h41 (k := j) (by omega)
        injection e' with e'
        subst e'
        have hxy := Hst.out j x y hy (by rw [← hj]; exact hx)
        have c11 := (hb10.cell (p := ad.add j) (by rw [block_of_add]; exact hadb)).trans hcy
        have q3 := cell_reg_ c11 (by rw [block_of_add]; omega)
        have h0z : 0 < i := by omega
        have h0y : (0 : Int) < (i : Int) := by omega
        have j1 : (0 : Int) ≤ (j : Int) := by omega
        have j2 : (j : Int) < (n4 : Int) := by omega
        have j3 : IntKind.i64.wrap ((i : Int) - 1) = (j : Int) := by rw [IntKind.wrap_i64]; omega
        have hxy2 : ¬ y ≤ x := by omega
        have Hj := hide hj
        clear hj h0 c11 hcy hy
        go_upto_region 11 with fail
        refine wp_region_grow [(73, isC (.bool true))] [73]
          (by kernel_rfl) (by kernel_rfl) rfl (by kernel_rfl) (by kernel_rfl) ⟨isC_stable _, trivial⟩ ?_
        repeat (first
          | (refine lex_skip rfl ?_; simp only [Act.put, List.setIfInBounds_toArray, List.set_cons_zero, List.set_cons_succ])
          | (refine lex_quiet rfl rfl rfl (fun K hK => ?_); unfold Reg; go_big_quiet_op; refine hK _ ?_; clear hK K)
          | (refine lex_rel rfl rfl (fun w' hb9 hK => ?_) (fun v w' hb9 hv => ?_)
             · unfold grows
               go_simp
               go_at_call 30
               exact call_isC (HH.out w' x _ _ _ (SpOn.on h32 hb9) hxm)
             obtain rfl := hv
             simp only [Act.put, List.setIfInBounds_toArray, List.set_cons_zero, List.set_cons_succ]))
        refine lex_nil (fun w9 hC9 _ => ?_)
        have hb9 := reg_iff.1 hC9
        clear hC9
        clear q2 q3
        go_wp2
        go_roundw
        case rel => exact ⟨i + 1, by omega, by go_num, hb.trans ((hb10.trans (hb9.mono hbs10)).mono hbs)⟩
        case measure => simp [RowKit.intOf]; omega
    · have hi2 : i = n4 := by omega
      subst hi2
      rw [hn4] at HCt
      have e3 : ((i : Int) == (i : Int)) = true := beq_self_eq_true _
      have hbw := hbw1
      have bk := bk1
      have h3 := h31
      clear h31 hbw1 bk1 h41 h4 HG HH Hst Hmem
      go_wp2_with (first
        | (go_at_call 7
           refine (HW.out _).mono ?_
           rintro e wn ⟨rfl, hbx⟩
           have bk := bk.below hbx bk.lt
           have k0 := bk.cell 0
           have k1 := bk.cell 1
           try have h3 := SpOn.on h3 hbx
           try have h4 := IntOn.on h4 hbx
           have hbw := hbw.trans (hbx.mono hbw.size))
        | (go_at_call 31
           refine (HCt.out _ _ _ _ h3).mono ?_
           rintro e wn ⟨rfl, hbx⟩
           have bk := bk.below hbx bk.lt
           have k0 := bk.cell 0
           have k1 := bk.cell 1
           try have h3 := SpOn.on h3 hbx
           try have h4 := IntOn.on h4 hbx
           have hbw := hbw.trans (hbx.mono hbw.size)))
      go_ret
      exact ⟨rfl, hbw⟩
theorem newest_walk (nm : ByteArray) (l : List Rl) (s : List S) (A : Option Addr) (n c : Nat) (Ai : Option Addr) (ni ci : Nat) (w : World) (h : RlOn w A n l) (hs : SpOn w Ai ni s)
    (hnm : nm.size ≤ maxLen) (hn : n ≤ maxLen) (hq : ∀ q ∈ l, q.2.length ≤ maxLen) :
    Calls Try.prog 5 #[.agg #[.string nm, .slice A n c], .slice Ai ni ci] w fun e w' => e = .returned (.bool true) ∧ Below w.heap.size w w' := by
  cases g1 : largeM nm l with
  | true => exact newest_la nm l s A n c Ai ni ci w h hs hnm hn hq g1
  | false =>
    cases g2 : okM nm l with
    | false => exact newest_ch nm l s A n c Ai ni ci w h hs hnm hn hq g1 g2
    | true =>
      by_cases g3 : 40 < ni
      · exact newest_in nm l s A n c Ai ni ci w h hs hnm hn hq g1 g2 g3
      · cases g4 : isSet (-1) s with
        | false => exact newest_se nm l s A n c Ai ni ci w h hs hnm hn hq g1 g2 g3 g4
        | true => exact newest_main nm l s A n c Ai ni ci w h hs hnm hn hq g1 g2 g3 g4
end Go.Proofs.Ytajgjkjhaafnfaa.Mani

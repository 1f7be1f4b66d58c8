/-
  Some texts of this claim, one behind the other: ManiTellsW. What each proves, and its condition, stands at its head.
-/
import Derived.Test.YtajgjkjhaafnfaaZ12
import Derived.Test.YtajgjkjhaafnfaaZ14
import Derived.Test.YtajgjkjhaafnfaaZ17
import Derived.Test.YtajgjkjhaafnfaaZ21
import Derived.Test.YtajgjkjhaafnfaaZ23
import Derived.Test.YtajgjkjhaafnfaaZ27
import Derived.Test.YtajgjkjhaafnfaaZ28
/-
  The walk of ManiTells. Condition: the slices read as releases and spans; lengths as a row bounds them.
-/
namespace Go.Proofs.Ytajgjkjhaafnfaa.Mani
open Go Go.RowKit Go.Lib Go.Proofs.Ytajgjkjhaafnfaa.Span Go.Proofs.Ytajgjkjhaafnfaa.Need Go.Proofs.Ytajgjkjhaafnfaa.Grow
set_option linter.unusedVariables false
/-- The relations 'a slice that reads as these spans, texts, numbers'. -/
def spR (L : List S) : Rel := fun w v => ∃ A n c, v = .slice A n c ∧ SpOn w A n L
theorem spR_stable (L : List S) : ∀ w w' v, Below w.heap.size w w' → spR L w v → spR L w' v := fun _ _ _ hb ⟨A, n, c, hv, h⟩ => ⟨A, n, c, hv, h.on hb⟩
def txR (L : List ByteArray) : Rel := fun w v => ∃ A n c, v = .slice A n c ∧ TxOn w A n L
theorem txR_stable (L : List ByteArray) : ∀ w w' v, Below w.heap.size w w' → txR L w v → txR L w' v := fun _ _ _ hb ⟨A, n, c, hv, h⟩ => ⟨A, n, c, hv, h.on hb⟩
def inR (L : List Int) : Rel := fun w v => ∃ A n c, v = .slice A n c ∧ IntOn w A n L
theorem inR_stable (L : List Int) : ∀ w w' v, Below w.heap.size w w' → inR L w v → inR L w' v := fun _ _ _ hb ⟨A, n, c, hv, h⟩ => ⟨A, n, c, hv, h.on hb⟩
theorem fine_nil : Fine [] := ⟨by simp, fun q hq => by cases hq⟩
theorem got_fine {l : List Rl} (h : FineR l) (p : Int) : Fine ((getR l p).getD (0, [])).2 := by
  cases g : getR l p with
  | none => exact fine_nil
  | some q => exact h.2 q (getR_mem g).1
set_option maxHeartbeats 8000000 in
set_option maxRecDepth 100000 in
theorem tells_la (nm : ByteArray) (l : List Rl) (p : Int) (s : List S) (A : Option Addr) (n c : Nat) (Ai : Option Addr) (ni ci : Nat) (w : World) (h : RlOn w A n l) (hs : SpOn w Ai ni s)
    (hnm : nm.size ≤ maxLen) (hn : n ≤ maxLen) (hq : ∀ q ∈ l, q.2.length ≤ maxLen)
    (g1 : largeM nm l = true) :
    Calls Try.prog 4 #[.agg #[.string nm, .slice A n c], .int .i64 p, .slice Ai ni ci] w fun e w' => e = .returned (.bool true) ∧ Below w.heap.size w w' := by
  have HL : Hid (∀ wx, Below w.heap.size w wx → Calls Try.prog 6 #[.agg #[.string nm, .slice A n c]] wx fun e w' => e = .returned (.bool true) ∧ Below wx.heap.size wx w') := hide (fun wx hbx => by
    have := largeM_any nm l A n c wx (h.on hbx) hq hn hnm; rw [g1] at this
    first | (unfold Tells at this; exact this) | exact this)
  have HW := hide (fun wx => awakeM_any wx)
  unfold Tells at HW
  have hbw : Below w.heap.size w (w.alloc (.cells #[.string nm, .slice A n c] 24)) := alloc_b _
  have bk := Blk.new w 24 #[.string nm, .slice A n c]
  clear h hs hq hn hnm
  go_enter Try.func4, Try.ntmps4
  go_wp2_with (first
    | (go_at_call 7
       refine (HW.out _).mono ?_
       rintro e wn ⟨rfl, hbx⟩
       have bk := bk.below hbx bk.lt
       have k0 := bk.cell 0
       have k1 := bk.cell 1
       try have h4 := IntOn.on h4 hbx
       have hbw := hbw.trans (hbx.mono hbw.size))
    | (go_at_call 6
       refine (HL.out _ hbw).mono ?_
       rintro e wn ⟨rfl, hbx⟩
       have bk := bk.below hbx bk.lt
       have k0 := bk.cell 0
       have k1 := bk.cell 1
       try have h4 := IntOn.on h4 hbx
       have hbw := hbw.trans (hbx.mono hbw.size)))
  go_ret
  exact ⟨rfl, hbw⟩
set_option maxHeartbeats 8000000 in
set_option maxRecDepth 100000 in
theorem tells_ch (nm : ByteArray) (l : List Rl) (p : Int) (s : List S) (A : Option Addr) (n c : Nat) (Ai : Option Addr) (ni ci : Nat) (w : World) (h : RlOn w A n l) (hs : SpOn w Ai ni s)
    (hnm : nm.size ≤ maxLen) (hn : n ≤ maxLen) (hq : ∀ q ∈ l, q.2.length ≤ maxLen)
    (g1 : largeM nm l = false) (g2 : okM nm l = false) :
    Calls Try.prog 4 #[.agg #[.string nm, .slice A n c], .int .i64 p, .slice Ai ni ci] w fun e w' => e = .returned (.bool true) ∧ Below w.heap.size w w' := by
  obtain ⟨hsz, hf⟩ := fineR_of g1
  have HL : Hid (∀ wx, Below w.heap.size w wx → Calls Try.prog 6 #[.agg #[.string nm, .slice A n c]] wx fun e w' => e = .returned (.bool false) ∧ Below wx.heap.size wx w') := hide (fun wx hbx => by
    have := largeM_any nm l A n c wx (h.on hbx) hq hn hnm; rw [g1] at this
    first | (unfold Tells at this; exact this) | exact this)
  have HC : Hid (∀ wx, Below w.heap.size w wx → Calls Try.prog 9 #[.agg #[.string nm, .slice A n c]] wx fun e w' => e = .returned (.bool false) ∧ Below wx.heap.size wx w') := hide (fun wx hbx => by
    have := refCheckM_any nm l A n c wx (h.on hbx) hf (by omega); rw [g2] at this
    first | (unfold Tells at this; exact this) | exact this)
  have HW := hide (fun wx => awakeM_any wx)
  unfold Tells at HW
  have hbw : Below w.heap.size w (w.alloc (.cells #[.string nm, .slice A n c] 24)) := alloc_b _
  have bk := Blk.new w 24 #[.string nm, .slice A n c]
  clear h hs hq hf hn hnm hsz
  go_enter Try.func4, Try.ntmps4
  go_wp2_with (first
    | (go_at_call 7
       refine (HW.out _).mono ?_
       rintro e wn ⟨rfl, hbx⟩
       have bk := bk.below hbx bk.lt
       have k0 := bk.cell 0
       have k1 := bk.cell 1
       try have h4 := IntOn.on h4 hbx
       have hbw := hbw.trans (hbx.mono hbw.size))
    | (go_at_call 9
       refine (HC.out _ hbw).mono ?_
       rintro e wn ⟨rfl, hbx⟩
       have bk := bk.below hbx bk.lt
       have k0 := bk.cell 0
       have k1 := bk.cell 1
       try have h4 := IntOn.on h4 hbx
       have hbw := hbw.trans (hbx.mono hbw.size))
    | (go_at_call 6
       refine (HL.out _ hbw).mono ?_
       rintro e wn ⟨rfl, hbx⟩
       have bk := bk.below hbx bk.lt
       have k0 := bk.cell 0
       have k1 := bk.cell 1
       try have h4 := IntOn.on h4 hbx
       have hbw := hbw.trans (hbx.mono hbw.size)))
  go_ret
  exact ⟨rfl, hbw⟩
set_option maxHeartbeats 8000000 in
set_option maxRecDepth 100000 in
theorem tells_in (nm : ByteArray) (l : List Rl) (p : Int) (s : List S) (A : Option Addr) (n c : Nat) (Ai : Option Addr) (ni ci : Nat) (w : World) (h : RlOn w A n l) (hs : SpOn w Ai ni s)
    (hnm : nm.size ≤ maxLen) (hn : n ≤ maxLen) (hq : ∀ q ∈ l, q.2.length ≤ maxLen)
    (g1 : largeM nm l = false) (g2 : okM nm l = true) (g3 : 40 < ni) :
    Calls Try.prog 4 #[.agg #[.string nm, .slice A n c], .int .i64 p, .slice Ai ni ci] w fun e w' => e = .returned (.bool true) ∧ Below w.heap.size w w' := by
  obtain ⟨hsz, hf⟩ := fineR_of g1
  have HL : Hid (∀ wx, Below w.heap.size w wx → Calls Try.prog 6 #[.agg #[.string nm, .slice A n c]] wx fun e w' => e = .returned (.bool false) ∧ Below wx.heap.size wx w') := hide (fun wx hbx => by
    have := largeM_any nm l A n c wx (h.on hbx) hq hn hnm; rw [g1] at this
    first | (unfold Tells at this; exact this) | exact this)
  have HC : Hid (∀ wx, Below w.heap.size w wx → Calls Try.prog 9 #[.agg #[.string nm, .slice A n c]] wx fun e w' => e = .returned (.bool true) ∧ Below wx.heap.size wx w') := hide (fun wx hbx => by
    have := refCheckM_any nm l A n c wx (h.on hbx) hf (by omega); rw [g2] at this
    first | (unfold Tells at this; exact this) | exact this)
  have HW := hide (fun wx => awakeM_any wx)
  unfold Tells at HW
  have hbw : Below w.heap.size w (w.alloc (.cells #[.string nm, .slice A n c] 24)) := alloc_b _
  have bk := Blk.new w 24 #[.string nm, .slice A n c]
  have g3z : (40 : Int) < (ni : Int) := by omega
  clear h hs hq hf g3 hn hnm hsz
  go_enter Try.func4, Try.ntmps4
  go_wp2_with (first
    | (go_at_call 7
       refine (HW.out _).mono ?_
       rintro e wn ⟨rfl, hbx⟩
       have bk := bk.below hbx bk.lt
       have k0 := bk.cell 0
       have k1 := bk.cell 1
       try have h4 := IntOn.on h4 hbx
       have hbw := hbw.trans (hbx.mono hbw.size))
    | (go_at_call 9
       refine (HC.out _ hbw).mono ?_
       rintro e wn ⟨rfl, hbx⟩
       have bk := bk.below hbx bk.lt
       have k0 := bk.cell 0
       have k1 := bk.cell 1
       try have h4 := IntOn.on h4 hbx
       have hbw := hbw.trans (hbx.mono hbw.size))
    | (go_at_call 6
       refine (HL.out _ hbw).mono ?_
       rintro e wn ⟨rfl, hbx⟩
       have bk := bk.below hbx bk.lt
       have k0 := bk.cell 0
       have k1 := bk.cell 1
       try have h4 := IntOn.on h4 hbx
       have hbw := hbw.trans (hbx.mono hbw.size)))
  go_ret
  exact ⟨rfl, hbw⟩
set_option maxHeartbeats 8000000 in
set_option maxRecDepth 100000 in
theorem tells_se (nm : ByteArray) (l : List Rl) (p : Int) (s : List S) (A : Option Addr) (n c : Nat) (Ai : Option Addr) (ni ci : Nat) (w : World) (h : RlOn w A n l) (hs : SpOn w Ai ni s)
    (hnm : nm.size ≤ maxLen) (hn : n ≤ maxLen) (hq : ∀ q ∈ l, q.2.length ≤ maxLen)
    (g1 : largeM nm l = false) (g2 : okM nm l = true) (g3 : ¬ 40 < ni) (g4 : isSet (-1) s = false) :
    Calls Try.prog 4 #[.agg #[.string nm, .slice A n c], .int .i64 p, .slice Ai ni ci] w fun e w' => e = .returned (.bool true) ∧ Below w.heap.size w w' := by
  obtain ⟨hsz, hf⟩ := fineR_of g1
  have HL : Hid (∀ wx, Below w.heap.size w wx → Calls Try.prog 6 #[.agg #[.string nm, .slice A n c]] wx fun e w' => e = .returned (.bool false) ∧ Below wx.heap.size wx w') := hide (fun wx hbx => by
    have := largeM_any nm l A n c wx (h.on hbx) hq hn hnm; rw [g1] at this
    first | (unfold Tells at this; exact this) | exact this)
  have HC : Hid (∀ wx, Below w.heap.size w wx → Calls Try.prog 9 #[.agg #[.string nm, .slice A n c]] wx fun e w' => e = .returned (.bool true) ∧ Below wx.heap.size wx w') := hide (fun wx hbx => by
    have := refCheckM_any nm l A n c wx (h.on hbx) hf (by omega); rw [g2] at this
    first | (unfold Tells at this; exact this) | exact this)
  have HS : Hid (∀ wx, Below w.heap.size w wx → Calls Try.prog 13 #[.slice Ai ni ci] wx fun e w' => e = .returned (.bool false) ∧ Below wx.heap.size wx w') := hide (fun wx hbx => by
    have := refCheck_on (c := ci) (hs.on hbx) (by omega); rw [g4] at this
    first | (unfold Tells at this; exact this) | exact this)
  have HW := hide (fun wx => awakeM_any wx)
  unfold Tells at HW
  have hbw : Below w.heap.size w (w.alloc (.cells #[.string nm, .slice A n c] 24)) := alloc_b _
  have bk := Blk.new w 24 #[.string nm, .slice A n c]
  have g3z : ¬ (40 : Int) < (ni : Int) := by omega
  clear h hs hq hf g3 hn hnm hsz
  go_enter Try.func4, Try.ntmps4
  go_wp2_with (first
    | (go_at_call 7
       refine (HW.out _).mono ?_
       rintro e wn ⟨rfl, hbx⟩
       have bk := bk.below hbx bk.lt
       have k0 := bk.cell 0
       have k1 := bk.cell 1
       try have h4 := IntOn.on h4 hbx
       have hbw := hbw.trans (hbx.mono hbw.size))
    | (go_at_call 13
       refine (HS.out _ hbw).mono ?_
       rintro e wn ⟨rfl, hbx⟩
       have bk := bk.below hbx bk.lt
       have k0 := bk.cell 0
       have k1 := bk.cell 1
       try have h4 := IntOn.on h4 hbx
       have hbw := hbw.trans (hbx.mono hbw.size))
    | (go_at_call 9
       refine (HC.out _ hbw).mono ?_
       rintro e wn ⟨rfl, hbx⟩
       have bk := bk.below hbx bk.lt
       have k0 := bk.cell 0
       have k1 := bk.cell 1
       try have h4 := IntOn.on h4 hbx
       have hbw := hbw.trans (hbx.mono hbw.size))
    | (go_at_call 6
       refine (HL.out _ hbw).mono ?_
       rintro e wn ⟨rfl, hbx⟩
       have bk := bk.below hbx bk.lt
       have k0 := bk.cell 0
       have k1 := bk.cell 1
       try have h4 := IntOn.on h4 hbx
       have hbw := hbw.trans (hbx.mono hbw.size)))
  go_ret
  exact ⟨rfl, hbw⟩
set_option maxHeartbeats 8000000 in
set_option maxRecDepth 100000 in
theorem tells_main (nm : ByteArray) (l : List Rl) (p : Int) (s : List S) (A : Option Addr) (n c : Nat) (Ai : Option Addr) (ni ci : Nat) (w : World) (h : RlOn w A n l) (hs : SpOn w Ai ni s)
    (hnm : nm.size ≤ maxLen) (hn : n ≤ maxLen) (hq : ∀ q ∈ l, q.2.length ≤ maxLen)
    (g1 : largeM nm l = false) (g2 : okM nm l = true) (g3 : ¬ 40 < ni) (g4 : isSet (-1) s = true) :
    Calls Try.prog 4 #[.agg #[.string nm, .slice A n c], .int .i64 p, .slice Ai ni ci] w fun e w' => e = .returned (.bool true) ∧ Below w.heap.size w w' := by
  obtain ⟨hsz, hf⟩ := fineR_of g1
  obtain ⟨hl8, hr, hok⟩ := okM_parts g2
  have hp : ∀ q ∈ l, 0 ≤ q.1 ∧ q.1 < 1000000000 := fun q hq => ⟨(hok q hq).1, (hok q hq).2.1⟩
  have hn8 : n ≤ 30 := by rw [← h.len]; omega
  have hni : ni ≤ 1000000001 := by omega
  have hfg := got_fine hf p
  have hdl : (downS l s).length ≤ 8 := Nat.le_trans (downS_length l s) hl8
  have hvl : (versS l).length ≤ 8 := Nat.le_trans (vers_len l) hl8
  have hal := allN_len (l := l) fun q hq => (hf.2 q hq).1
  have hnl := foldN_len (allN l)
  have HL : Hid (∀ wx, Below w.heap.size w wx → Calls Try.prog 6 #[.agg #[.string nm, .slice A n c]] wx fun e w' => e = .returned (.bool false) ∧ Below wx.heap.size wx w') := hide (fun wx hbx => by
    have := largeM_any nm l A n c wx (h.on hbx) hq hn hnm; rw [g1] at this
    first | (unfold Tells at this; exact this) | exact this)
  have HC : Hid (∀ wx, Below w.heap.size w wx → Calls Try.prog 9 #[.agg #[.string nm, .slice A n c]] wx fun e w' => e = .returned (.bool true) ∧ Below wx.heap.size wx w') := hide (fun wx hbx => by
    have := refCheckM_any nm l A n c wx (h.on hbx) hf (by omega); rw [g2] at this
    first | (unfold Tells at this; exact this) | exact this)
  have HS : Hid (∀ wx, Below w.heap.size w wx → Calls Try.prog 13 #[.slice Ai ni ci] wx fun e w' => e = .returned (.bool true) ∧ Below wx.heap.size wx w') := hide (fun wx hbx => by
    have := refCheck_on (c := ci) (hs.on hbx) (by omega); rw [g4] at this
    first | (unfold Tells at this; exact this) | exact this)
  have HW := hide (fun wx => awakeM_any wx)
  unfold Tells at HW
  have HG : Hid (∀ wx, Below w.heap.size w wx → Calls Try.prog 14 #[.agg #[.string nm, .slice A n c], .int .i64 p] wx fun e w' => ∃ A n c, e = .returned (.tuple #[.agg #[.int .i64 ((getR l p).getD (0, [])).1, .slice A n c], .bool (getR l p).isSome]) ∧ NdOn w' A n ((getR l p).getD (0, [])).2 ∧ Below wx.heap.size wx w') := hide (fun wx hbx => by
    have := getM_any p nm l A n c wx (h.on hbx) hf
    unfold Gets at this
    exact this)
  have HRG : Hid (∀ wx, Below w.heap.size w wx → Calls Try.prog 15 #[.agg #[.string nm, .slice A n c], .int .i64 p] wx fun e w' => ∃ A n c, e = .returned (.tuple #[.agg #[.int .i64 ((getR l p).getD (0, [])).1, .slice A n c], .bool (getR l p).isSome]) ∧ NdOn w' A n ((getR l p).getD (0, [])).2 ∧ Below wx.heap.size wx w') := hide (fun wx hbx => by
    have := refGetM_any p nm l A n c wx (h.on hbx) hf
    unfold Gets at this
    exact this)
  have HNS : Hid (∀ wx A3 n3 c3 A4 n4 c4, NdOn wx A3 n3 ((getR l p).getD (0, [])).2 → NdOn wx A4 n4 ((getR l p).getD (0, [])).2 → Calls Try.prog 16 #[.slice A3 n3 c3, .slice A4 n4 c4] wx fun e w' => e = .returned (.bool true) ∧ Below wx.heap.size wx w') := hide (fun wx A3 n3 c3 A4 n4 c4 h3 h4 => by
    have := refSameN_any _ _ A3 A4 n3 c3 n4 c4 wx h3 h4 hfg.short hfg.short (by have := h3.len; have := hfg.1; omega); rw [decide_eq_true rfl] at this
    first | (unfold Tells at this; exact this) | exact this)
  have HV : Hid (∀ wx, Below w.heap.size w wx → Calls Try.prog 18 #[.agg #[.string nm, .slice A n c]] wx fun e w' => ∃ A n c, e = .returned (.slice A n c) ∧ SpOn w' A n (versS l) ∧ Below wx.heap.size wx w') := hide (fun wx hbx => by
    have := versM_any nm l A n c wx (h.on hbx) hn8 hp
    first | (unfold Makes at this; exact this) | (unfold MakesI at this; exact this) | (unfold MakesT at this; exact this))
  have HRV : Hid (∀ wx, Below w.heap.size w wx → Calls Try.prog 19 #[.agg #[.string nm, .slice A n c]] wx fun e w' => ∃ A n c, e = .returned (.slice A n c) ∧ SpOn w' A n (versS l) ∧ Below wx.heap.size wx w') := hide (fun wx hbx => by
    have := refVersM_any nm l A n c wx (h.on hbx) hn8
    first | (unfold Makes at this; exact this) | (unfold MakesI at this; exact this) | (unfold MakesT at this; exact this))
  have HSS : Hid (∀ wx A3 n3 c3 A4 n4 c4, SpOn wx A3 n3 (versS l) → SpOn wx A4 n4 (versS l) → Calls Try.prog 17 #[.slice A3 n3 c3, .slice A4 n4 c4] wx fun e w' => e = .returned (.bool true) ∧ Below wx.heap.size wx w') := hide (fun wx A3 n3 c3 A4 n4 c4 h3 h4 => by
    have := refSame_yes (c := c3) (c' := c4) h3 h4 (by have := h3.1; omega) rfl
    first | (unfold Tells at this; exact this) | exact this)
  have HN : Hid (∀ wx, Below w.heap.size w wx → Calls Try.prog 21 #[.agg #[.string nm, .slice A n c]] wx fun e w' => ∃ A n c, e = .returned (.slice A n c) ∧ TxOn w' A n (foldN (allN l)) ∧ Below wx.heap.size wx w') := hide (fun wx hbx => by
    have := namesM_any nm l A n c wx (h.on hbx) hf
    first | (unfold Makes at this; exact this) | (unfold MakesI at this; exact this) | (unfold MakesT at this; exact this))
  have HRN : Hid (∀ wx, Below w.heap.size w wx → Calls Try.prog 22 #[.agg #[.string nm, .slice A n c]] wx fun e w' => ∃ A n c, e = .returned (.slice A n c) ∧ TxOn w' A n (foldN (allN l)) ∧ Below wx.heap.size wx w') := hide (fun wx hbx => by
    have := refNamesM_any nm l A n c wx (h.on hbx) hf
    first | (unfold Makes at this; exact this) | (unfold MakesI at this; exact this) | (unfold MakesT at this; exact this))
  have HN2 : Hid (∀ wx A3 n3 c3 A4 n4 c4, TxOn wx A3 n3 (foldN (allN l)) → TxOn wx A4 n4 (foldN (allN l)) → Calls Try.prog 20 #[.slice A3 n3 c3, .slice A4 n4 c4] wx fun e w' => e = .returned (.bool true) ∧ Below wx.heap.size wx w') := hide (fun wx A3 n3 c3 A4 n4 c4 h3 h4 => by
    have := names2_yes _ A3 A4 n3 c3 n4 c4 wx h3 h4 (by have := h3.len; omega)
    first | (unfold Tells at this; exact this) | exact this)
  have HD : Hid (∀ wx, Below w.heap.size w wx → Calls Try.prog 24 #[.agg #[.string nm, .slice A n c], .slice Ai ni ci] wx fun e w' => ∃ A n c, e = .returned (.slice A n c) ∧ IntOn w' A n (downS l s) ∧ Below wx.heap.size wx w') := hide (fun wx hbx => by
    have := downM_any nm l A n c Ai ni ci s wx (h.on hbx) hn8 (hs.on hbx) hni
    first | (unfold Makes at this; exact this) | (unfold MakesI at this; exact this) | (unfold MakesT at this; exact this))
  have HRD : Hid (∀ wx, Below w.heap.size w wx → Calls Try.prog 25 #[.agg #[.string nm, .slice A n c], .slice Ai ni ci] wx fun e w' => ∃ A n c, e = .returned (.slice A n c) ∧ IntOn w' A n (downS l s) ∧ Below wx.heap.size wx w') := hide (fun wx hbx => by
    have := refDownM_any nm l A n c Ai ni ci s wx (h.on hbx) hn8 (hs.on hbx) g4
    first | (unfold Makes at this; exact this) | (unfold MakesI at this; exact this) | (unfold MakesT at this; exact this))
  have HI : Hid (∀ wx A3 n3 c3 A4 n4 c4, IntOn wx A3 n3 (downS l s) → IntOn wx A4 n4 (downS l s) → Calls Try.prog 23 #[.slice A3 n3 c3, .slice A4 n4 c4] wx fun e w' => e = .returned (.bool true) ∧ Below wx.heap.size wx w') := hide (fun wx A3 n3 c3 A4 n4 c4 h3 h4 => by
    have := ints_yes _ A3 A4 n3 c3 n4 c4 wx h3 h4 (by have := h3.len; omega)
    first | (unfold Tells at this; exact this) | exact this)
  have HNe : Hid (∀ wx, Below w.heap.size w wx → Calls Try.prog 26 #[.agg #[.string nm, .slice A n c], .slice Ai ni ci] wx fun e w' => e = .returned (.tuple #[.int .i64 ((downS l s).headD 0), .bool (decide (downS l s ≠ []))]) ∧ Below wx.heap.size wx w') := hide (fun wx hbx => by
    have := newestM_any nm l A n c Ai ni ci s wx (h.on hbx) hn8 (hs.on hbx) hni
    first | (unfold Tells at this; exact this) | exact this)
  have hbw : Below w.heap.size w (w.alloc (.cells #[.string nm, .slice A n c] 24)) := alloc_b _
  have bk := Blk.new w 24 #[.string nm, .slice A n c]
  have g3z : ¬ (40 : Int) < (ni : Int) := by omega
  clear h hs hq hn hnm hf g3 hp hok hr hl8 hn8 hni g1 g2 g4 hsz hfg hvl hal hnl
  generalize (getR l p).isSome = q at *
  generalize ((getR l p).getD (0, [])).1 = z at *
  generalize ((getR l p).getD (0, [])).2 = ns at *
  generalize versS l = V at *
  generalize foldN (allN l) = U at *
  generalize downS l s = L at *
  have e1 : (q != q) = false := bne_self_eq_false q
  have e2 : (z != z) = false := bne_self_eq_false z
  go_enter Try.func4, Try.ntmps4
  go_upto_region 5 with (first
    | (go_at_call 15
       refine (HRG.out _ hbA).mono ?_
       rintro e w4 ⟨A6, n6, c6, rfl, h6, hbx⟩
       have d7 := b7.below hbx b7.lt
       have h5 := NdOn.on h5 ((alloc_b _).trans (hbx.mono (by simp)))
       have dk := bA.below hbx bA.lt
       have hbw4 := hbA.trans (hbx.mono hbA.size))
    | (go_at_call 14
       refine (HG.out _ hbw).mono ?_
       rintro e w3 ⟨A5, n5, c5, rfl, h5, hbx⟩
       have bk := bk.below hbx bk.lt
       have hbw := hbw.trans (hbx.mono hbw.size)
       have hbA : Below w.heap.size w (w3.alloc (.cells #[.int .i64 z, .slice A5 n5 c5] 33)) := hbw.alloc hbw.size _
       have bA := bk.alloc (.cells #[.int .i64 z, .slice A5 n5 c5] 33)
       have b7 := Blk.new w3 33 #[.int .i64 z, .slice A5 n5 c5]
       have k0 : ∀ o, (w3.alloc o).cell? ⟨w.heap.size, 0, none⟩ = some (.string nm) := fun o => ((bk.alloc o).cell 0).trans rfl
       have k1 : ∀ o, (w3.alloc o).cell? ⟨w.heap.size, 1, none⟩ = some (.slice A n c) := fun o => ((bk.alloc o).cell 1).trans rfl)
    | (go_at_call 13
       refine (HS.out _ hbw).mono ?_
       rintro e wn ⟨rfl, hbx⟩
       have bk := bk.below hbx bk.lt
       have k0 := bk.cell 0
       have k1 := bk.cell 1
       try have h4 := IntOn.on h4 hbx
       have hbw := hbw.trans (hbx.mono hbw.size))
    | (go_at_call 9
       refine (HC.out _ hbw).mono ?_
       rintro e wn ⟨rfl, hbx⟩
       have bk := bk.below hbx bk.lt
       have k0 := bk.cell 0
       have k1 := bk.cell 1
       try have h4 := IntOn.on h4 hbx
       have hbw := hbw.trans (hbx.mono hbw.size))
    | (go_at_call 6
       refine (HL.out _ hbw).mono ?_
       rintro e wn ⟨rfl, hbx⟩
       have bk := bk.below hbx bk.lt
       have k0 := bk.cell 0
       have k1 := bk.cell 1
       try have h4 := IntOn.on h4 hbx
       have hbw := hbw.trans (hbx.mono hbw.size)))
  obtain ⟨W5, hW5⟩ : ∃ W5, W5 = w4.alloc (.cells #[.int .i64 z, .slice A6 n6 c6] 33) := ⟨_, rfl⟩
  have f9 : Blk W5 w4.heap.size 33 #[.int .i64 z, .slice A6 n6 c6] := by rw [hW5]; exact Blk.new _ _ _
  have f7 : Blk W5 w3.heap.size 33 #[.int .i64 z, .slice A5 n5 c5] := by rw [hW5]; exact d7.alloc _
  have fk : Blk W5 w.heap.size 24 #[.string nm, .slice A n c] := by rw [hW5]; exact dk.alloc _
  have h5' : NdOn W5 A5 n5 ns := by rw [hW5]; exact h5.on (alloc_b _)
  have h6' : NdOn W5 A6 n6 ns := by rw [hW5]; exact h6.on (alloc_b _)
  have hb5 : Below w.heap.size w W5 := by rw [hW5]; exact hbw4.alloc hbw4.size _
  have hbs5 := hb5.size
  try rw [← hW5]
  clear hW5 d7 dk b7 bA bk k0 k1 h5 h6 hbw4 hbA hbw HG HRG HL HC HS
  have q1 := cell_reg_ ((fk.cell 0).trans rfl) fk.lt
  have q2 := cell_reg_ ((fk.cell 1).trans rfl) fk.lt
  have q3 := cell_reg_ ((f7.cell 0).trans rfl) f7.lt
  have q4 := cell_reg_ ((f7.cell 1).trans rfl) f7.lt
  have q5 := cell_reg_ ((f9.cell 0).trans rfl) f9.lt
  have q6 := cell_reg_ ((f9.cell 1).trans rfl) f9.lt
  have up := hide (fun (wx : World) (hx : Below W5.heap.size W5 wx) => hb5.trans (hx.mono hbs5))
  refine wp_region_grow [(59, isC (.bool true)), (64, spR V), (66, spR V), (67, isC (.bool true)), (72, txR U), (74, txR U), (75, isC (.bool true)), (81, inR L), (84, inR L), (85, isC (.bool true))] [59, 64, 66, 67, 72, 74, 75, 81, 84, 85]
    (by kernel_rfl) (by kernel_rfl) rfl (by kernel_rfl) (by kernel_rfl) ⟨isC_stable _, spR_stable _, spR_stable _, isC_stable _, txR_stable _, txR_stable _, isC_stable _, inR_stable _, inR_stable _, isC_stable _, trivial⟩ ?_
  repeat (first
    | (refine lex_skip rfl ?_; simp only [Act.put, List.setIfInBounds_toArray, List.set_cons_zero, List.set_cons_succ])
    | (refine lex_quiet rfl rfl rfl (fun K hK => ?_); unfold Reg; go_big_quiet_op; refine hK _ ?_; clear hK K)
    | (refine lex_rel rfl rfl (fun w' hb9 hK => ?_) (fun v w' hb9 hv => ?_)
       · unfold grows
         go_simp
         go_at_call 16
         exact call_isC (HNS.out w' _ _ _ _ _ _ (h5'.on hb9) (h6'.on hb9))
       obtain rfl := hv
       simp only [Act.put, List.setIfInBounds_toArray, List.set_cons_zero, List.set_cons_succ])
    | (refine lex_rel rfl rfl (fun w' hb9 hK => ?_) (fun v w' hb9 hv => ?_)
       · unfold grows
         go_simp
         go_at_call 18
         refine (HV.out w' (up.out _ hb9)).mono ?_
         rintro e w8 ⟨A8, n8, c8, rfl, h8, hb8⟩
         exact ⟨_, rfl, hb8, A8, n8, c8, rfl, h8⟩
       obtain ⟨Av64, nv64, cv64, rfl, hv64⟩ := hv
       simp only [Act.put, List.setIfInBounds_toArray, List.set_cons_zero, List.set_cons_succ])
    | (refine lex_rel rfl rfl (fun w' hb9 hK => ?_) (fun v w' hb9 hv => ?_)
       · unfold grows
         go_simp
         go_at_call 19
         refine (HRV.out w' (up.out _ hb9)).mono ?_
         rintro e w8 ⟨A8, n8, c8, rfl, h8, hb8⟩
         exact ⟨_, rfl, hb8, A8, n8, c8, rfl, h8⟩
       obtain ⟨Av66, nv66, cv66, rfl, hv66⟩ := hv
       simp only [Act.put, List.setIfInBounds_toArray, List.set_cons_zero, List.set_cons_succ])
    | (refine lex_rel rfl rfl (fun w' hb9 hK => ?_) (fun v w' hb9 hv => ?_)
       · unfold grows
         go_simp
         go_at_call 21
         refine (HN.out w' (up.out _ hb9)).mono ?_
         rintro e w8 ⟨A8, n8, c8, rfl, h8, hb8⟩
         exact ⟨_, rfl, hb8, A8, n8, c8, rfl, h8⟩
       obtain ⟨Av72, nv72, cv72, rfl, hv72⟩ := hv
       simp only [Act.put, List.setIfInBounds_toArray, List.set_cons_zero, List.set_cons_succ])
    | (refine lex_rel rfl rfl (fun w' hb9 hK => ?_) (fun v w' hb9 hv => ?_)
       · unfold grows
         go_simp
         go_at_call 22
         refine (HRN.out w' (up.out _ hb9)).mono ?_
         rintro e w8 ⟨A8, n8, c8, rfl, h8, hb8⟩
         exact ⟨_, rfl, hb8, A8, n8, c8, rfl, h8⟩
       obtain ⟨Av74, nv74, cv74, rfl, hv74⟩ := hv
       simp only [Act.put, List.setIfInBounds_toArray, List.set_cons_zero, List.set_cons_succ])
    | (refine lex_rel rfl rfl (fun w' hb9 hK => ?_) (fun v w' hb9 hv => ?_)
       · unfold grows
         go_simp
         go_at_call 24
         refine (HD.out w' (up.out _ hb9)).mono ?_
         rintro e w8 ⟨A8, n8, c8, rfl, h8, hb8⟩
         exact ⟨_, rfl, hb8, A8, n8, c8, rfl, h8⟩
       obtain ⟨Av81, nv81, cv81, rfl, hv81⟩ := hv
       simp only [Act.put, List.setIfInBounds_toArray, List.set_cons_zero, List.set_cons_succ])
    | (refine lex_rel rfl rfl (fun w' hb9 hK => ?_) (fun v w' hb9 hv => ?_)
       · unfold grows
         go_simp
         go_at_call 25
         refine (HRD.out w' (up.out _ hb9)).mono ?_
         rintro e w8 ⟨A8, n8, c8, rfl, h8, hb8⟩
         exact ⟨_, rfl, hb8, A8, n8, c8, rfl, h8⟩
       obtain ⟨Av84, nv84, cv84, rfl, hv84⟩ := hv
       simp only [Act.put, List.setIfInBounds_toArray, List.set_cons_zero, List.set_cons_succ])
    | (refine lex_rel rfl rfl (fun w' hb9 hK => ?_) (fun v w' hb9 hv => ?_)
       · obtain ⟨B1, m1, d1, j1, hB1⟩ := hK.at_ 64 rfl rfl (slice_def2 _ _ _)
         obtain ⟨B2, m2, d2, j2, hB2⟩ := hK.at_ 66 rfl rfl (slice_def2 _ _ _)
         have j1' : Value.slice Av64 nv64 cv64 = .slice B1 m1 d1 := j1
         have j2' : Value.slice Av66 nv66 cv66 = .slice B2 m2 d2 := j2
         injection j1' with x1 x2 x3
         injection j2' with y1 y2 y3
         rw [← x1, ← x2] at hB1
         rw [← y1, ← y2] at hB2
         clear j1 j2 x1 x2 x3 y1 y2 y3 hK
         unfold grows
         go_simp
         go_at_call 17
         exact call_isC (HSS.out w' _ _ _ _ _ _ hB1 hB2)
       obtain rfl := hv
       simp only [Act.put, List.setIfInBounds_toArray, List.set_cons_zero, List.set_cons_succ])
    | (refine lex_rel rfl rfl (fun w' hb9 hK => ?_) (fun v w' hb9 hv => ?_)
       · obtain ⟨B1, m1, d1, j1, hB1⟩ := hK.at_ 72 rfl rfl (slice_def2 _ _ _)
         obtain ⟨B2, m2, d2, j2, hB2⟩ := hK.at_ 74 rfl rfl (slice_def2 _ _ _)
         have j1' : Value.slice Av72 nv72 cv72 = .slice B1 m1 d1 := j1
         have j2' : Value.slice Av74 nv74 cv74 = .slice B2 m2 d2 := j2
         injection j1' with x1 x2 x3
         injection j2' with y1 y2 y3
         rw [← x1, ← x2] at hB1
         rw [← y1, ← y2] at hB2
         clear j1 j2 x1 x2 x3 y1 y2 y3 hK
         unfold grows
         go_simp
         go_at_call 20
         exact call_isC (HN2.out w' _ _ _ _ _ _ hB1 hB2)
       obtain rfl := hv
       simp only [Act.put, List.setIfInBounds_toArray, List.set_cons_zero, List.set_cons_succ])
    | (refine lex_rel rfl rfl (fun w' hb9 hK => ?_) (fun v w' hb9 hv => ?_)
       · obtain ⟨B1, m1, d1, j1, hB1⟩ := hK.at_ 81 rfl rfl (slice_def2 _ _ _)
         obtain ⟨B2, m2, d2, j2, hB2⟩ := hK.at_ 84 rfl rfl (slice_def2 _ _ _)
         have j1' : Value.slice Av81 nv81 cv81 = .slice B1 m1 d1 := j1
         have j2' : Value.slice Av84 nv84 cv84 = .slice B2 m2 d2 := j2
         injection j1' with x1 x2 x3
         injection j2' with y1 y2 y3
         rw [← x1, ← x2] at hB1
         rw [← y1, ← y2] at hB2
         clear j1 j2 x1 x2 x3 y1 y2 y3 hK
         unfold grows
         go_simp
         go_at_call 23
         exact call_isC (HI.out w' _ _ _ _ _ _ hB1 hB2)
       obtain rfl := hv
       simp only [Act.put, List.setIfInBounds_toArray, List.set_cons_zero, List.set_cons_succ]))
  refine lex_nil (fun w9 hC9 _ => ?_)
  have hb9 := reg_iff.1 hC9
  have hbw := up.out _ hb9
  have bk := fk.below hb9 fk.lt
  have k0 := bk.cell 0
  have k1 := bk.cell 1
  clear q1 q2 q3 q4 q5 q6 hC9 f7 f9 fk h5' h6'
  cases L with
  | nil =>
    go_wp2_with (first
      | (go_at_call 26
         refine (HNe.out _ hbw).mono ?_
         rintro e wn ⟨rfl, hbx⟩
         have bk := bk.below hbx bk.lt
         have k0 := bk.cell 0
         have k1 := bk.cell 1
         try have h4 := IntOn.on h4 hbx
         have hbw := hbw.trans (hbx.mono hbw.size))
      | (go_at_call 25
         refine (HRD.out _ hbw).mono ?_
         rintro e wn ⟨A4, n4, c4, rfl, h4, hbx⟩
         obtain rfl : n4 = 0 := h4.len.symm
         have bk := bk.below hbx bk.lt
         have k0 := bk.cell 0
         have k1 := bk.cell 1
         have hbw := hbw.trans (hbx.mono hbw.size))
      | (go_at_call 7
         refine (HW.out _).mono ?_
         rintro e wn ⟨rfl, hbx⟩
         have bk := bk.below hbx bk.lt
         have k0 := bk.cell 0
         have k1 := bk.cell 1
         try have h4 := IntOn.on h4 hbx
         have hbw := hbw.trans (hbx.mono hbw.size)))
    go_ret
    exact ⟨by simp, hbw⟩
  | cons y t =>
    have e3 : decide (y :: t ≠ []) = true := by simp
    have e4 : (y == y) = true := beq_self_eq_true y
    rw [e3] at HNe
    go_wp2_with (first
      | (go_at_call 26
         refine (HNe.out _ hbw).mono ?_
         rintro e wn ⟨rfl, hbx⟩
         have bk := bk.below hbx bk.lt
         have k0 := bk.cell 0
         have k1 := bk.cell 1
         try have h4 := IntOn.on h4 hbx
         have hbw := hbw.trans (hbx.mono hbw.size)
         obtain ⟨ad, y', hA4, _, hy, hc⟩ := ics_at h4 (k := 0) (by omega)
         subst hA4
         simp at hy
         subst hy
         rw [add_zero'] at hc)
      | (go_at_call 25
         refine (HRD.out _ hbw).mono ?_
         rintro e wn ⟨A4, n4, c4, rfl, h4, hbx⟩
         obtain ⟨k4, rfl⟩ : ∃ k, n4 = k + 1 := ⟨n4 - 1, by have := h4.len; simp at this; omega⟩
         have bk := bk.below hbx bk.lt
         have k0 := bk.cell 0
         have k1 := bk.cell 1
         have hbw := hbw.trans (hbx.mono hbw.size))
      | (go_at_call 7
         refine (HW.out _).mono ?_
         rintro e wn ⟨rfl, hbx⟩
         have bk := bk.below hbx bk.lt
         have k0 := bk.cell 0
         have k1 := bk.cell 1
         try have h4 := IntOn.on h4 hbx
         have hbw := hbw.trans (hbx.mono hbw.size)))
    go_ret
    exact ⟨by simp, hbw⟩
theorem tells_walk (nm : ByteArray) (l : List Rl) (p : Int) (s : List S) (A : Option Addr) (n c : Nat) (Ai : Option Addr) (ni ci : Nat) (w : World) (h : RlOn w A n l) (hs : SpOn w Ai ni s)
    (hnm : nm.size ≤ maxLen) (hn : n ≤ maxLen) (hq : ∀ q ∈ l, q.2.length ≤ maxLen) :
    Calls Try.prog 4 #[.agg #[.string nm, .slice A n c], .int .i64 p, .slice Ai ni ci] w fun e w' => e = .returned (.bool true) ∧ Below w.heap.size w w' := by
  cases g1 : largeM nm l with
  | true => exact tells_la nm l p s A n c Ai ni ci w h hs hnm hn hq g1
  | false =>
    cases g2 : okM nm l with
    | false => exact tells_ch nm l p s A n c Ai ni ci w h hs hnm hn hq g1 g2
    | true =>
      by_cases g3 : 40 < ni
      · exact tells_in nm l p s A n c Ai ni ci w h hs hnm hn hq g1 g2 g3
      · cases g4 : isSet (-1) s with
        | false => exact tells_se nm l p s A n c Ai ni ci w h hs hnm hn hq g1 g2 g3 g4
        | true => exact tells_main nm l p s A n c Ai ni ci w h hs hnm hn hq g1 g2 g3 g4
end Go.Proofs.Ytajgjkjhaafnfaa.Mani

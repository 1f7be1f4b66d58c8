/-
  Some texts of this claim, one behind the other: NeedAwake, NeedListsW, NeedBothM, NeedBothW. What each proves, and its condition, stands at its head.
-/
import Derived.Test.YtmcpdcfeappokaaGreatDoorZ34
import Derived.Test.YtmcpdcfeappokaaGreatDoorZ37
import Derived.Test.YtmcpdcfeappokaaGreatDoorZ38
import Derived.Test.YtmcpdcfeappokaaGreatDoorZ20
import Derived.Test.YtmcpdcfeappokaaGreatDoorZ21
import Derived.Test.YtmcpdcfeappokaaGreatDoorZ22
import Derived.Test.YtmcpdcfeappokaaGreatDoorZ16
import Derived.Test.YtmcpdcfeappokaaGreatDoorZ19
/-
  The chapter's examples (awake): they hold. Condition: the tables hold what the texts lay in them.
-/
namespace Go.Proofs.YtmcpdcfeappokaaGreatDoor.Need
open Go Go.RowKit Go.Lib Go.Proofs.YtmcpdcfeappokaaGreatDoor.Span
open Go.Proofs.YtmcpdcfeappokaaGreatDoor.Ver (Tabs txt)
open Go.Proofs.YtmcpdcfeappokaaGreatDoor.Rule (told toldSet toldAt toldErr showL cmpI mean_cmp readT pieceT meetT cutL told_of setOf_self ivOf cmp_of txt_small joinL partL anyL tz tz_in)
open Go.Proofs.YtmcpdcfeappokaaGreatDoor.Label (runes fitL runes_step runes_end rn wd)
set_option linter.unusedVariables false
def tx1 : List UInt8 := [98, 32, 94, 49, 46, 48, 46, 48, 59, 32, 99]
def tx2 : List UInt8 := [99, 59, 32, 98]
def nb : Nd := (str [98], [(1000000, 2000000)])
def nc : Nd := (str [99], [(0, 1000000000)])
theorem fit_b : fitL (runes (str [98]) 0) = true := by
  rw [runes_step _ _ (by decide), runes_end _ _ (by decide)]
  decide
theorem fit_c : fitL (runes (str [99]) 0) = true := by
  rw [runes_step _ _ (by decide), runes_end _ _ (by decide)]
  decide
theorem nlt_of (l m : List UInt8) : nlt (str l) (str m) = Op.bytesLess l m := by unfold nlt; rw [str_toList, str_toList]
theorem empty_str : ByteArray.empty = str [] := rfl
theorem t100 : txt 1000000 = [49, 46, 48, 46, 48] := txt_small (a := 1) (b := 0) (c := 0) rfl rfl rfl (by omega) (by omega) (by omega)
theorem t200 : txt 2000000 = [50, 46, 48, 46, 48] := txt_small (a := 2) (b := 0) (c := 0) rfl rfl rfl (by omega) (by omega) (by omega)
theorem cmp100 : cmpI [94, 49, 46, 48, 46, 48] = some (1000000, 2000000) := by
  have := (cmp_of (g := [94]) (by simp) (p := 1000000) (by omega)).1
  rw [t100] at this
  rw [show ([94, 49, 46, 48, 46, 48] : List UInt8) = [94] ++ [49, 46, 48, 46, 48] from rfl, this]
  simp [ivOf, Ver.afterN, Ver.unitN]
theorem told100 : told [32, 94, 49, 46, 48, 46, 48] = Rule.Told.ok [(1000000, 2000000)] := by
  have hw : (cutL [32, 94, 49, 46, 48, 46, 48]).map (fun q => q.1.map Prod.fst) = [[[94, 49, 46, 48, 46, 48]]] := by decide
  have h : readT [] ((cutL [32, 94, 49, 46, 48, 46, 48]).map fun q => q.1.map Prod.fst) = some [(1000000, 2000000)] := by
    rw [hw]
    simp only [readT, pieceT, meetT]
    rw [mean_cmp _ (by decide) (by decide), cmp100]
    decide
  rw [told_of (by decide) h, setOf_self (by decide), if_neg (by decide)]
theorem read_b : readP [98, 32, 94, 49, 46, 48, 46, 48] ByteArray.empty = .ok nb := by
  have h1 : nameL [98, 32, 94, 49, 46, 48, 46, 48] = [98] := by decide
  have h2 : (textOf [98, 32, 94, 49, 46, 48, 46, 48]).drop 1 = [32, 94, 49, 46, 48, 46, 48] := by decide
  have h3 : readInL [32, 94, 49, 46, 48, 46, 48] = Rule.Told.ok [(1000000, 2000000)] := by unfold readInL; rw [if_neg (by decide), told100]
  unfold readP
  rw [h1, fit_b, empty_str, nlt_of]
  rw [show ([98] : List UInt8).length = 1 from rfl, h2, h3]
  rfl
theorem read_c1 (a : ByteArray) (h : nlt a (str [99]) = true) : readP [32, 99] a = .ok nc := by
  have h1 : nameL [32, 99] = [99] := by decide
  have h2 : (textOf [32, 99]).drop 1 = [] := by decide
  have h3 : readInL [] = Rule.Told.ok [(0, 1000000000)] := by unfold readInL; rw [if_pos (by decide)]
  unfold readP
  rw [h1, fit_c, h, show ([99] : List UInt8).length = 1 from rfl, h2, h3]
  rfl
theorem read_c2 (a : ByteArray) (h : nlt a (str [99]) = true) : readP [99] a = .ok nc := by
  have h1 : nameL [99] = [99] := by decide
  have h2 : (textOf [99]).drop 1 = [] := by decide
  have h3 : readInL [] = Rule.Told.ok [(0, 1000000000)] := by unfold readInL; rw [if_pos (by decide)]
  unfold readP
  rw [h1, fit_c, h, show ([99] : List UInt8).length = 1 from rfl, h2, h3]
  rfl
theorem read_bb : readP [32, 98] (str [99]) = .bad 1 3 := by
  have h1 : nameL [32, 98] = [98] := by decide
  unfold readP
  rw [h1, fit_b, nlt_of]
  rw [if_pos (by decide)]
  rfl
theorem pcs1 : pcsOf 0 tx1 = [(0, [98, 32, 94, 49, 46, 48, 46, 48]), (9, [32, 99])] := by
  rw [pcs_yes (by decide), pcs_no (by decide)]
  rfl
theorem pcs2 : pcsOf 0 tx2 = [(0, [99]), (2, [32, 98])] := by
  rw [pcs_yes (by decide), pcs_no (by decide)]
  rfl
theorem out1 : outOf (pcsOf 0 tx1) [] = .ok [nb, nc] := by
  rw [pcs1]
  have e0 : lastN [] = ByteArray.empty := rfl
  have e1 : lastN [nb] = str [98] := rfl
  simp only [outOf, e0, read_b, List.nil_append, e1, read_c1 (str [98]) (by rw [nlt_of]; decide)]
  rfl
theorem out2 : outOf (pcsOf 0 tx2) [] = .bad 3 3 := by
  rw [pcs2]
  have e0 : lastN [] = ByteArray.empty := rfl
  have e1 : lastN [nc] = str [99] := rfl
  simp only [outOf, e0, read_c2 ByteArray.empty (by rw [empty_str, nlt_of]; decide), List.nil_append, e1, read_bb]
  rw [show wrap64 (((2 : Nat) : Int) + 1) = 3 by kernel_rfl]
theorem ok_bc : okS [nb, nc] = true := by
  have h1 : nlt ByteArray.empty (str [98]) = true := by rw [empty_str, nlt_of]; decide
  have h2 : nlt (str [98]) (str [99]) = true := by rw [nlt_of]; decide
  simp only [okS, okFrom, nb, nc, fit_b, fit_c, h1, h2]
  decide
theorem show_b : showL [(1000000, 2000000)] = [62, 61, 49, 46, 48, 46, 48, 32, 60, 50, 46, 48, 46, 48] := by
  have h1 : isSet (-1) [((1000000 : Int), (2000000 : Int))] = true := by decide
  have e1 : tz 1000000 = [49, 46, 48, 46, 48] := (tz_in (by omega) (by omega)).trans t100
  have e2 : tz 2000000 = [50, 46, 48, 46, 48] := (tz_in (by omega) (by omega)).trans t200
  unfold showL
  rw [if_neg (by rw [h1]; simp), if_neg (by decide), if_neg (by decide)]
  simp only [joinL, partL]
  rw [if_neg (by decide), if_neg (by decide), if_neg (by decide), e1, e2]
  rfl
theorem show_c : showL [(0, 1000000000)] = [97, 110, 121] := by
  unfold showL
  rw [if_neg (by decide), if_neg (by decide), if_pos rfl]
  rfl
theorem join_bc : joinB [nb, nc] = [98, 32, 62, 61, 49, 46, 48, 46, 48, 32, 60, 50, 46, 48, 46, 48, 59, 32, 99, 32, 97, 110, 121] := by
  have e1 : (partB nb).data.toList = [98, 32, 62, 61, 49, 46, 48, 46, 48, 32, 60, 50, 46, 48, 46, 48] := by
    unfold partB nb
    rw [show_b, show (⟨#[32]⟩ : ByteArray) = str [32] from rfl, str_append, str_append]
    rfl
  have e2 : (partB nc).data.toList = [99, 32, 97, 110, 121] := by
    unfold partB nc
    rw [show_c, show (⟨#[32]⟩ : ByteArray) = str [32] from rfl, str_append, str_append]
    rfl
  unfold joinB
  rw [List.map_cons, List.map_cons, List.map_nil, e1, e2]
  rfl
set_option maxHeartbeats 2000000 in
set_option maxRecDepth 100000 in
theorem awake_any (w : World) (hT : Tabs w) : Calls Tryz.prog 6 #[] w (Tells w (.bool true)) := by
  have H1 : Hid (Calls Tryz.prog 17 #[.string ⟨#[98, 32, 94, 49, 46, 48, 46, 48, 59, 32, 99]⟩] w fun e w' => ∃ A c, e = .returned (.tuple #[.slice A 2 c, .int .i64 0, .int .i64 0]) ∧ NdOn w' A 2 [nb, nc] ∧ Below w.heap.size w w') := hide (by
    have := readAll_any tx1 w (by decide) (by decide) hT
    rw [out1] at this
    refine this.mono ?_
    rintro e w' ⟨A, n, c, rfl, h, hb⟩
    have : n = 2 := by rw [← h.len]; rfl
    subst this
    exact ⟨A, c, rfl, h, hb⟩)
  have H2 : Hid (∀ wx, Below w.heap.size w wx → Calls Tryz.prog 17 #[.string ⟨#[99, 59, 32, 98]⟩] wx fun e w' => ∃ A n c, e = .returned (.tuple #[.slice A n c, .int .i64 3, .int .i64 3]) ∧ Below wx.heap.size wx w') := hide (fun wx hb => by
    have := readAll_any tx2 wx (by decide) (by decide) (hT.below hb)
    rw [out2] at this
    refine this.mono ?_
    rintro e w' ⟨A, n, c, rfl, h, hb⟩
    exact ⟨A, n, c, rfl, hb⟩)
  have H3 : Hid (∀ wx A c, NdOn wx A 2 [nb, nc] → Below w.heap.size w wx → Calls Tryz.prog 18 #[.slice A 2 c] wx (Tells wx (.string ⟨#[98, 32, 62, 61, 49, 46, 48, 46, 48, 32, 60, 50, 46, 48, 46, 48, 59, 32, 99, 32, 97, 110, 121]⟩))) := hide (fun wx A c hx hb => by
    have := showN_any [nb, nc] A 2 c wx hx ok_bc (by rw [join_bc]; decide) (by
      intro q hq
      rcases List.mem_cons.1 hq with rfl | hq
      · show (showL [(1000000, 2000000)]).length ≤ _; rw [show_b]; decide
      · rw [List.mem_singleton.1 hq]; show (showL [(0, 1000000000)]).length ≤ _; rw [show_c]; decide) (hT.below hb)
    rw [join_bc] at this
    exact this)
  clear hT
  unfold Tells at *
  go_enter Tryz.func6, Tryz.ntmps6
  go_wp2_with (first
    | (go_at_call 18
       refine (H3.out _ _ _ h1' hb2).mono ?_
       rintro e w3 ⟨rfl, hb3'⟩
       have hb3 := hb2.trans (hb3'.mono hb2.size))
    | (go_at_call 17
       refine (H2.out _ hb1).mono ?_
       rintro e w2 ⟨A2, n2, c2, rfl, hb2'⟩
       have hb2 := hb1.trans (hb2'.mono hb1.size)
       have h1' := h1.on hb2')
    | (go_at_call 17
       refine H1.out.mono ?_
       rintro e w1 ⟨A1, c1, rfl, h1, hb1⟩))
  go_ret
  exact ⟨rfl, hb3⟩
end Go.Proofs.YtmcpdcfeappokaaGreatDoor.Need
/-
  The walk of NeedLists: any two lists, any name. Condition: the tables hold what the texts lay in them.
-/
namespace Go.Proofs.YtmcpdcfeappokaaGreatDoor.Need
open Go Go.RowKit Go.Lib Go.Proofs.YtmcpdcfeappokaaGreatDoor.Span
open Go.Proofs.YtmcpdcfeappokaaGreatDoor.Ver (Tabs)
set_option linter.unusedVariables false
theorem not_large {l : List Nd} (h : large l = false) : l.length ≤ 40 ∧ ∀ q ∈ l, q.1.size ≤ 100 ∧ q.2.length ≤ 40 := by
  unfold large at h
  obtain ⟨h1, h2⟩ := Bool.or_eq_false_iff.1 h
  refine ⟨by have := of_decide_eq_false h1; omega, fun q hq => ?_⟩
  have := List.any_eq_false.1 h2 q hq
  unfold bigN at this
  simp at this
  omega
set_option maxHeartbeats 8000000 in
set_option maxRecDepth 100000 in
theorem lists_la (a b : List Nd) (nm : ByteArray) (A0 : Option Addr) (n0 c0 : Nat) (A1 : Option Addr) (n1 c1 : Nat) (w : World) (hn0 : n0 ≤ 9223372036854775807) (hn1 : n1 ≤ 9223372036854775807)
    (h0 : NdOn w A0 n0 a) (h1 : NdOn w A1 n1 b) (hT : Tabs w)
    (hla : large a = true) :
    Calls Tryz.prog 3 #[.slice A0 n0 c0, .slice A1 n1 c1, .string nm] w fun e w' => e = .returned (.bool true) ∧ Below w.heap.size w w' := by
  have hbw : Below w.heap.size w w := Below.refl _ _
  have HT := hide (fun wx (hb : Below w.heap.size w wx) => awake_any wx (hT.below hb))
  have HLa : Hid (∀ wx, NdOn wx A0 n0 a → Calls Tryz.prog 5 #[.slice A0 n0 c0] wx fun e w' => e = .returned (.bool true) ∧ Below wx.heap.size wx w') := hide (fun wx h => by have := large_any a A0 n0 c0 wx h hn0; rwa [hla] at this)
  clear hT
  go_enter Tryz.func3, Tryz.ntmps3
  go_wp2_with (first
    | (go_at_call_of 5 (Value.slice A0 n0 c0)
       refine (HLa.out _ h0).mono ?_
       rintro e wn ⟨rfl, hbx⟩
       try have h0 := NdOn.on h0 hbx
       try have h1 := NdOn.on h1 hbx
       try have h3 := SpOn.on h3 hbx
       try have h4 := SpOn.on h4 hbx
       try have h5 := NdOn.on h5 hbx
       try have h6 := NdOn.on h6 hbx
       have hbw := hbw.trans (hbx.mono hbw.size))
    | (go_at_call_of 5 (Value.slice A1 n1 c1)
       refine (HLb.out _ h1).mono ?_
       rintro e wn ⟨rfl, hbx⟩
       try have h0 := NdOn.on h0 hbx
       try have h1 := NdOn.on h1 hbx
       try have h3 := SpOn.on h3 hbx
       try have h4 := SpOn.on h4 hbx
       try have h5 := NdOn.on h5 hbx
       try have h6 := NdOn.on h6 hbx
       have hbw := hbw.trans (hbx.mono hbw.size))
    | (go_at_call 6
       refine (HT.out _ hbw).mono ?_
       rintro e wn ⟨rfl, hbx⟩
       have hbw := hbw.trans (hbx.mono hbw.size)))
  go_ret
  exact ⟨rfl, hbw⟩
set_option maxHeartbeats 8000000 in
set_option maxRecDepth 100000 in
theorem lists_lb (a b : List Nd) (nm : ByteArray) (A0 : Option Addr) (n0 c0 : Nat) (A1 : Option Addr) (n1 c1 : Nat) (w : World) (hn0 : n0 ≤ 9223372036854775807) (hn1 : n1 ≤ 9223372036854775807)
    (h0 : NdOn w A0 n0 a) (h1 : NdOn w A1 n1 b) (hT : Tabs w)
    (hla : large a = false) (hlb : large b = true) :
    Calls Tryz.prog 3 #[.slice A0 n0 c0, .slice A1 n1 c1, .string nm] w fun e w' => e = .returned (.bool true) ∧ Below w.heap.size w w' := by
  have hbw : Below w.heap.size w w := Below.refl _ _
  have HT := hide (fun wx (hb : Below w.heap.size w wx) => awake_any wx (hT.below hb))
  have HLa : Hid (∀ wx, NdOn wx A0 n0 a → Calls Tryz.prog 5 #[.slice A0 n0 c0] wx fun e w' => e = .returned (.bool false) ∧ Below wx.heap.size wx w') := hide (fun wx h => by have := large_any a A0 n0 c0 wx h hn0; rwa [hla] at this)
  have HLb : Hid (∀ wx, NdOn wx A1 n1 b → Calls Tryz.prog 5 #[.slice A1 n1 c1] wx fun e w' => e = .returned (.bool true) ∧ Below wx.heap.size wx w') := hide (fun wx h => by have := large_any b A1 n1 c1 wx h hn1; rwa [hlb] at this)
  clear hT
  go_enter Tryz.func3, Tryz.ntmps3
  go_wp2_with (first
    | (go_at_call_of 5 (Value.slice A0 n0 c0)
       refine (HLa.out _ h0).mono ?_
       rintro e wn ⟨rfl, hbx⟩
       try have h0 := NdOn.on h0 hbx
       try have h1 := NdOn.on h1 hbx
       try have h3 := SpOn.on h3 hbx
       try have h4 := SpOn.on h4 hbx
       try have h5 := NdOn.on h5 hbx
       try have h6 := NdOn.on h6 hbx
       have hbw := hbw.trans (hbx.mono hbw.size))
    | (go_at_call_of 5 (Value.slice A1 n1 c1)
       refine (HLb.out _ h1).mono ?_
       rintro e wn ⟨rfl, hbx⟩
       try have h0 := NdOn.on h0 hbx
       try have h1 := NdOn.on h1 hbx
       try have h3 := SpOn.on h3 hbx
       try have h4 := SpOn.on h4 hbx
       try have h5 := NdOn.on h5 hbx
       try have h6 := NdOn.on h6 hbx
       have hbw := hbw.trans (hbx.mono hbw.size))
    | (go_at_call 6
       refine (HT.out _ hbw).mono ?_
       rintro e wn ⟨rfl, hbx⟩
       have hbw := hbw.trans (hbx.mono hbw.size)))
  go_ret
  exact ⟨rfl, hbw⟩
set_option maxHeartbeats 8000000 in
set_option maxRecDepth 100000 in
theorem lists_ca (a b : List Nd) (nm : ByteArray) (A0 : Option Addr) (n0 c0 : Nat) (A1 : Option Addr) (n1 c1 : Nat) (w : World) (hn0 : n0 ≤ 9223372036854775807) (hn1 : n1 ≤ 9223372036854775807)
    (h0 : NdOn w A0 n0 a) (h1 : NdOn w A1 n1 b) (hT : Tabs w)
    (hla : large a = false) (hlb : large b = false) (hca : okS a = false) :
    Calls Tryz.prog 3 #[.slice A0 n0 c0, .slice A1 n1 c1, .string nm] w fun e w' => e = .returned (.bool true) ∧ Below w.heap.size w w' := by
  have hbw : Below w.heap.size w w := Below.refl _ _
  have HT := hide (fun wx (hb : Below w.heap.size w wx) => awake_any wx (hT.below hb))
  have HLa : Hid (∀ wx, NdOn wx A0 n0 a → Calls Tryz.prog 5 #[.slice A0 n0 c0] wx fun e w' => e = .returned (.bool false) ∧ Below wx.heap.size wx w') := hide (fun wx h => by have := large_any a A0 n0 c0 wx h hn0; rwa [hla] at this)
  have HLb : Hid (∀ wx, NdOn wx A1 n1 b → Calls Tryz.prog 5 #[.slice A1 n1 c1] wx fun e w' => e = .returned (.bool false) ∧ Below wx.heap.size wx w') := hide (fun wx h => by have := large_any b A1 n1 c1 wx h hn1; rwa [hlb] at this)
  obtain ⟨la, qa⟩ := not_large hla
  obtain ⟨lb, qb⟩ := not_large hlb
  have hn0 : n0 ≤ 140737488355328 := by have := h0.len; omega
  have hn1 : n1 ≤ 140737488355328 := by have := h1.len; omega
  have sa : Short a := fun q hq => by have := (qa q hq).2; omega
  have sb : Short b := fun q hq => by have := (qb q hq).2; omega
  have na : Names a := fun q hq => by have := qa q hq; omega
  have n9 : Names9 a := fun q hq => by have := qa q hq; omega
  have n9b : Names9 b := fun q hq => by have := qb q hq; omega
  have HC : Hid (∀ wx, NdOn wx A0 n0 a → Calls Tryz.prog 9 #[.slice A0 n0 c0] wx fun e w' => e = .returned (.bool false) ∧ Below wx.heap.size wx w') := hide (fun wx h => by have := checkN_any a A0 n0 c0 wx h na hn0; rwa [hca] at this)
  have HRa : Hid (∀ wx, NdOn wx A0 n0 a → Calls Tryz.prog 10 #[.slice A0 n0 c0] wx fun e w' => e = .returned (.bool false) ∧ Below wx.heap.size wx w') := hide (fun wx h => by have := refCheckN_any a A0 n0 c0 wx h n9 hn0; rwa [hca] at this)
  have HS := hide (fun wx (h : NdOn wx A0 n0 a) (h' : NdOn wx A1 n1 b) => sameN_any a b A0 A1 n0 c0 n1 c1 wx h h' sa sb hn0)
  have HRS := hide (fun wx (h : NdOn wx A0 n0 a) (h' : NdOn wx A1 n1 b) => refSameN_any a b A0 A1 n0 c0 n1 c1 wx h h' sa sb hn0)
  have HF := hide (fun wx (h : NdOn wx A0 n0 a) => findN_any a nm A0 n0 c0 wx h (fun q hq => by have := qa q hq; omega) hn0)
  have HRF := hide (fun wx (h : NdOn wx A0 n0 a) => refFindN_any a nm A0 n0 c0 wx h hn0)
  have hfl : ((findS a nm).getD []).length ≤ 40 := by
    cases hf : findS a nm with
    | none => exact Nat.zero_le _
    | some s => exact (qa _ (find_in hf)).2
  have HSS := hide (fun wx {A n c A' n' c'} (h : SpOn wx A n ((findS a nm).getD [])) (h' : SpOn wx A' n' ((findS a nm).getD [])) => refSame_yes (c := c) (c' := c') h h' (by have := h.len; omega) rfl)
  unfold Finds at HF HRF
  generalize (findS a nm).isSome = fi at *
  generalize (findS a nm).getD [] = fs at *
  generalize decide (a = b) = q at *
  clear hT la lb qa qb sa sb na n9 n9b hla hlb hca hfl
  go_enter Tryz.func3, Tryz.ntmps3
  go_wp2_with (first
    | (go_at_call 9
       refine (HC.out _ h0).mono ?_
       rintro e wn ⟨rfl, hbx⟩
       try have h0 := NdOn.on h0 hbx
       try have h1 := NdOn.on h1 hbx
       try have h3 := SpOn.on h3 hbx
       try have h4 := SpOn.on h4 hbx
       try have h5 := NdOn.on h5 hbx
       try have h6 := NdOn.on h6 hbx
       have hbw := hbw.trans (hbx.mono hbw.size))
    | (go_at_call_of 10 (Value.slice A0 n0 c0)
       refine (HRa.out _ h0).mono ?_
       rintro e wn ⟨rfl, hbx⟩
       try have h0 := NdOn.on h0 hbx
       try have h1 := NdOn.on h1 hbx
       try have h3 := SpOn.on h3 hbx
       try have h4 := SpOn.on h4 hbx
       try have h5 := NdOn.on h5 hbx
       try have h6 := NdOn.on h6 hbx
       have hbw := hbw.trans (hbx.mono hbw.size))
    | (go_at_call_of 12 (Value.slice A0 n0 c0)
       refine (HRS.out _ h0 h1).mono ?_
       rintro e wn ⟨rfl, hbx⟩
       try have h0 := NdOn.on h0 hbx
       try have h1 := NdOn.on h1 hbx
       try have h3 := SpOn.on h3 hbx
       try have h4 := SpOn.on h4 hbx
       try have h5 := NdOn.on h5 hbx
       try have h6 := NdOn.on h6 hbx
       have hbw := hbw.trans (hbx.mono hbw.size))
    | (go_at_call 11
       refine (HS.out _ h0 h1).mono ?_
       rintro e wn ⟨rfl, hbx⟩
       try have h0 := NdOn.on h0 hbx
       try have h1 := NdOn.on h1 hbx
       try have h3 := SpOn.on h3 hbx
       try have h4 := SpOn.on h4 hbx
       try have h5 := NdOn.on h5 hbx
       try have h6 := NdOn.on h6 hbx
       have hbw := hbw.trans (hbx.mono hbw.size))
    | (go_at_call 7
       refine (HF.out _ h0).mono ?_
       rintro e wn ⟨A3, n3, c3, rfl, h3, hbx⟩
       try have h0 := NdOn.on h0 hbx
       try have h1 := NdOn.on h1 hbx
       try have h4 := SpOn.on h4 hbx
       try have h5 := NdOn.on h5 hbx
       try have h6 := NdOn.on h6 hbx
       have hbw := hbw.trans (hbx.mono hbw.size))
    | (go_at_call 8
       refine (HRF.out _ h0).mono ?_
       rintro e wn ⟨A4, n4, c4, rfl, h4, hbx⟩
       try have h0 := NdOn.on h0 hbx
       try have h1 := NdOn.on h1 hbx
       try have h3 := SpOn.on h3 hbx
       try have h5 := NdOn.on h5 hbx
       try have h6 := NdOn.on h6 hbx
       have hbw := hbw.trans (hbx.mono hbw.size))
    | (go_at_call 13
       refine (HSS.out _ h3 h4).mono ?_
       rintro e wn ⟨rfl, hbx⟩
       try have h0 := NdOn.on h0 hbx
       try have h1 := NdOn.on h1 hbx
       try have h3 := SpOn.on h3 hbx
       try have h4 := SpOn.on h4 hbx
       try have h5 := NdOn.on h5 hbx
       try have h6 := NdOn.on h6 hbx
       have hbw := hbw.trans (hbx.mono hbw.size))
    | (go_at_call_of 5 (Value.slice A0 n0 c0)
       refine (HLa.out _ h0).mono ?_
       rintro e wn ⟨rfl, hbx⟩
       try have h0 := NdOn.on h0 hbx
       try have h1 := NdOn.on h1 hbx
       try have h3 := SpOn.on h3 hbx
       try have h4 := SpOn.on h4 hbx
       try have h5 := NdOn.on h5 hbx
       try have h6 := NdOn.on h6 hbx
       have hbw := hbw.trans (hbx.mono hbw.size))
    | (go_at_call_of 5 (Value.slice A1 n1 c1)
       refine (HLb.out _ h1).mono ?_
       rintro e wn ⟨rfl, hbx⟩
       try have h0 := NdOn.on h0 hbx
       try have h1 := NdOn.on h1 hbx
       try have h3 := SpOn.on h3 hbx
       try have h4 := SpOn.on h4 hbx
       try have h5 := NdOn.on h5 hbx
       try have h6 := NdOn.on h6 hbx
       have hbw := hbw.trans (hbx.mono hbw.size))
    | (go_at_call 6
       refine (HT.out _ hbw).mono ?_
       rintro e wn ⟨rfl, hbx⟩
       have hbw := hbw.trans (hbx.mono hbw.size)))
  go_ret
  exact ⟨rfl, hbw⟩
set_option maxHeartbeats 8000000 in
set_option maxRecDepth 100000 in
theorem lists_cb (a b : List Nd) (nm : ByteArray) (A0 : Option Addr) (n0 c0 : Nat) (A1 : Option Addr) (n1 c1 : Nat) (w : World) (hn0 : n0 ≤ 9223372036854775807) (hn1 : n1 ≤ 9223372036854775807)
    (h0 : NdOn w A0 n0 a) (h1 : NdOn w A1 n1 b) (hT : Tabs w)
    (hla : large a = false) (hlb : large b = false) (hca : okS a = true) (hcb : okS b = false) :
    Calls Tryz.prog 3 #[.slice A0 n0 c0, .slice A1 n1 c1, .string nm] w fun e w' => e = .returned (.bool true) ∧ Below w.heap.size w w' := by
  have hbw : Below w.heap.size w w := Below.refl _ _
  have HT := hide (fun wx (hb : Below w.heap.size w wx) => awake_any wx (hT.below hb))
  have HLa : Hid (∀ wx, NdOn wx A0 n0 a → Calls Tryz.prog 5 #[.slice A0 n0 c0] wx fun e w' => e = .returned (.bool false) ∧ Below wx.heap.size wx w') := hide (fun wx h => by have := large_any a A0 n0 c0 wx h hn0; rwa [hla] at this)
  have HLb : Hid (∀ wx, NdOn wx A1 n1 b → Calls Tryz.prog 5 #[.slice A1 n1 c1] wx fun e w' => e = .returned (.bool false) ∧ Below wx.heap.size wx w') := hide (fun wx h => by have := large_any b A1 n1 c1 wx h hn1; rwa [hlb] at this)
  obtain ⟨la, qa⟩ := not_large hla
  obtain ⟨lb, qb⟩ := not_large hlb
  have hn0 : n0 ≤ 140737488355328 := by have := h0.len; omega
  have hn1 : n1 ≤ 140737488355328 := by have := h1.len; omega
  have sa : Short a := fun q hq => by have := (qa q hq).2; omega
  have sb : Short b := fun q hq => by have := (qb q hq).2; omega
  have na : Names a := fun q hq => by have := qa q hq; omega
  have n9 : Names9 a := fun q hq => by have := qa q hq; omega
  have n9b : Names9 b := fun q hq => by have := qb q hq; omega
  have HC : Hid (∀ wx, NdOn wx A0 n0 a → Calls Tryz.prog 9 #[.slice A0 n0 c0] wx fun e w' => e = .returned (.bool true) ∧ Below wx.heap.size wx w') := hide (fun wx h => by have := checkN_any a A0 n0 c0 wx h na hn0; rwa [hca] at this)
  have HRa : Hid (∀ wx, NdOn wx A0 n0 a → Calls Tryz.prog 10 #[.slice A0 n0 c0] wx fun e w' => e = .returned (.bool true) ∧ Below wx.heap.size wx w') := hide (fun wx h => by have := refCheckN_any a A0 n0 c0 wx h n9 hn0; rwa [hca] at this)
  have HRb : Hid (∀ wx, NdOn wx A1 n1 b → Calls Tryz.prog 10 #[.slice A1 n1 c1] wx fun e w' => e = .returned (.bool false) ∧ Below wx.heap.size wx w') := hide (fun wx h => by have := refCheckN_any b A1 n1 c1 wx h n9b hn1; rwa [hcb] at this)
  have HS := hide (fun wx (h : NdOn wx A0 n0 a) (h' : NdOn wx A1 n1 b) => sameN_any a b A0 A1 n0 c0 n1 c1 wx h h' sa sb hn0)
  have HRS := hide (fun wx (h : NdOn wx A0 n0 a) (h' : NdOn wx A1 n1 b) => refSameN_any a b A0 A1 n0 c0 n1 c1 wx h h' sa sb hn0)
  have HF := hide (fun wx (h : NdOn wx A0 n0 a) => findN_any a nm A0 n0 c0 wx h (fun q hq => by have := qa q hq; omega) hn0)
  have HRF := hide (fun wx (h : NdOn wx A0 n0 a) => refFindN_any a nm A0 n0 c0 wx h hn0)
  have hfl : ((findS a nm).getD []).length ≤ 40 := by
    cases hf : findS a nm with
    | none => exact Nat.zero_le _
    | some s => exact (qa _ (find_in hf)).2
  have HSS := hide (fun wx {A n c A' n' c'} (h : SpOn wx A n ((findS a nm).getD [])) (h' : SpOn wx A' n' ((findS a nm).getD [])) => refSame_yes (c := c) (c' := c') h h' (by have := h.len; omega) rfl)
  unfold Finds at HF HRF
  generalize (findS a nm).isSome = fi at *
  generalize (findS a nm).getD [] = fs at *
  generalize decide (a = b) = q at *
  clear hT la lb qa qb sa sb na n9 n9b hla hlb hca hcb hfl
  go_enter Tryz.func3, Tryz.ntmps3
  go_wp2_with (first
    | (go_at_call 9
       refine (HC.out _ h0).mono ?_
       rintro e wn ⟨rfl, hbx⟩
       try have h0 := NdOn.on h0 hbx
       try have h1 := NdOn.on h1 hbx
       try have h3 := SpOn.on h3 hbx
       try have h4 := SpOn.on h4 hbx
       try have h5 := NdOn.on h5 hbx
       try have h6 := NdOn.on h6 hbx
       have hbw := hbw.trans (hbx.mono hbw.size))
    | (go_at_call_of 10 (Value.slice A0 n0 c0)
       refine (HRa.out _ h0).mono ?_
       rintro e wn ⟨rfl, hbx⟩
       try have h0 := NdOn.on h0 hbx
       try have h1 := NdOn.on h1 hbx
       try have h3 := SpOn.on h3 hbx
       try have h4 := SpOn.on h4 hbx
       try have h5 := NdOn.on h5 hbx
       try have h6 := NdOn.on h6 hbx
       have hbw := hbw.trans (hbx.mono hbw.size))
    | (go_at_call_of 10 (Value.slice A1 n1 c1)
       refine (HRb.out _ h1).mono ?_
       rintro e wn ⟨rfl, hbx⟩
       try have h0 := NdOn.on h0 hbx
       try have h1 := NdOn.on h1 hbx
       try have h3 := SpOn.on h3 hbx
       try have h4 := SpOn.on h4 hbx
       try have h5 := NdOn.on h5 hbx
       try have h6 := NdOn.on h6 hbx
       have hbw := hbw.trans (hbx.mono hbw.size))
    | (go_at_call_of 12 (Value.slice A0 n0 c0)
       refine (HRS.out _ h0 h1).mono ?_
       rintro e wn ⟨rfl, hbx⟩
       try have h0 := NdOn.on h0 hbx
       try have h1 := NdOn.on h1 hbx
       try have h3 := SpOn.on h3 hbx
       try have h4 := SpOn.on h4 hbx
       try have h5 := NdOn.on h5 hbx
       try have h6 := NdOn.on h6 hbx
       have hbw := hbw.trans (hbx.mono hbw.size))
    | (go_at_call 11
       refine (HS.out _ h0 h1).mono ?_
       rintro e wn ⟨rfl, hbx⟩
       try have h0 := NdOn.on h0 hbx
       try have h1 := NdOn.on h1 hbx
       try have h3 := SpOn.on h3 hbx
       try have h4 := SpOn.on h4 hbx
       try have h5 := NdOn.on h5 hbx
       try have h6 := NdOn.on h6 hbx
       have hbw := hbw.trans (hbx.mono hbw.size))
    | (go_at_call 7
       refine (HF.out _ h0).mono ?_
       rintro e wn ⟨A3, n3, c3, rfl, h3, hbx⟩
       try have h0 := NdOn.on h0 hbx
       try have h1 := NdOn.on h1 hbx
       try have h4 := SpOn.on h4 hbx
       try have h5 := NdOn.on h5 hbx
       try have h6 := NdOn.on h6 hbx
       have hbw := hbw.trans (hbx.mono hbw.size))
    | (go_at_call 8
       refine (HRF.out _ h0).mono ?_
       rintro e wn ⟨A4, n4, c4, rfl, h4, hbx⟩
       try have h0 := NdOn.on h0 hbx
       try have h1 := NdOn.on h1 hbx
       try have h3 := SpOn.on h3 hbx
       try have h5 := NdOn.on h5 hbx
       try have h6 := NdOn.on h6 hbx
       have hbw := hbw.trans (hbx.mono hbw.size))
    | (go_at_call 13
       refine (HSS.out _ h3 h4).mono ?_
       rintro e wn ⟨rfl, hbx⟩
       try have h0 := NdOn.on h0 hbx
       try have h1 := NdOn.on h1 hbx
       try have h3 := SpOn.on h3 hbx
       try have h4 := SpOn.on h4 hbx
       try have h5 := NdOn.on h5 hbx
       try have h6 := NdOn.on h6 hbx
       have hbw := hbw.trans (hbx.mono hbw.size))
    | (go_at_call_of 5 (Value.slice A0 n0 c0)
       refine (HLa.out _ h0).mono ?_
       rintro e wn ⟨rfl, hbx⟩
       try have h0 := NdOn.on h0 hbx
       try have h1 := NdOn.on h1 hbx
       try have h3 := SpOn.on h3 hbx
       try have h4 := SpOn.on h4 hbx
       try have h5 := NdOn.on h5 hbx
       try have h6 := NdOn.on h6 hbx
       have hbw := hbw.trans (hbx.mono hbw.size))
    | (go_at_call_of 5 (Value.slice A1 n1 c1)
       refine (HLb.out _ h1).mono ?_
       rintro e wn ⟨rfl, hbx⟩
       try have h0 := NdOn.on h0 hbx
       try have h1 := NdOn.on h1 hbx
       try have h3 := SpOn.on h3 hbx
       try have h4 := SpOn.on h4 hbx
       try have h5 := NdOn.on h5 hbx
       try have h6 := NdOn.on h6 hbx
       have hbw := hbw.trans (hbx.mono hbw.size))
    | (go_at_call 6
       refine (HT.out _ hbw).mono ?_
       rintro e wn ⟨rfl, hbx⟩
       have hbw := hbw.trans (hbx.mono hbw.size)))
  go_ret
  exact ⟨rfl, hbw⟩
set_option maxHeartbeats 8000000 in
set_option maxRecDepth 100000 in
theorem lists_ok (a b : List Nd) (nm : ByteArray) (A0 : Option Addr) (n0 c0 : Nat) (A1 : Option Addr) (n1 c1 : Nat) (w : World) (hn0 : n0 ≤ 9223372036854775807) (hn1 : n1 ≤ 9223372036854775807)
    (h0 : NdOn w A0 n0 a) (h1 : NdOn w A1 n1 b) (hT : Tabs w)
    (hla : large a = false) (hlb : large b = false) (hca : okS a = true) (hcb : okS b = true) :
    Calls Tryz.prog 3 #[.slice A0 n0 c0, .slice A1 n1 c1, .string nm] w fun e w' => e = .returned (.bool true) ∧ Below w.heap.size w w' := by
  have hbw : Below w.heap.size w w := Below.refl _ _
  have HT := hide (fun wx (hb : Below w.heap.size w wx) => awake_any wx (hT.below hb))
  have HLa : Hid (∀ wx, NdOn wx A0 n0 a → Calls Tryz.prog 5 #[.slice A0 n0 c0] wx fun e w' => e = .returned (.bool false) ∧ Below wx.heap.size wx w') := hide (fun wx h => by have := large_any a A0 n0 c0 wx h hn0; rwa [hla] at this)
  have HLb : Hid (∀ wx, NdOn wx A1 n1 b → Calls Tryz.prog 5 #[.slice A1 n1 c1] wx fun e w' => e = .returned (.bool false) ∧ Below wx.heap.size wx w') := hide (fun wx h => by have := large_any b A1 n1 c1 wx h hn1; rwa [hlb] at this)
  obtain ⟨la, qa⟩ := not_large hla
  obtain ⟨lb, qb⟩ := not_large hlb
  have hn0 : n0 ≤ 140737488355328 := by have := h0.len; omega
  have hn1 : n1 ≤ 140737488355328 := by have := h1.len; omega
  have sa : Short a := fun q hq => by have := (qa q hq).2; omega
  have sb : Short b := fun q hq => by have := (qb q hq).2; omega
  have na : Names a := fun q hq => by have := qa q hq; omega
  have n9 : Names9 a := fun q hq => by have := qa q hq; omega
  have n9b : Names9 b := fun q hq => by have := qb q hq; omega
  have HC : Hid (∀ wx, NdOn wx A0 n0 a → Calls Tryz.prog 9 #[.slice A0 n0 c0] wx fun e w' => e = .returned (.bool true) ∧ Below wx.heap.size wx w') := hide (fun wx h => by have := checkN_any a A0 n0 c0 wx h na hn0; rwa [hca] at this)
  have HRa : Hid (∀ wx, NdOn wx A0 n0 a → Calls Tryz.prog 10 #[.slice A0 n0 c0] wx fun e w' => e = .returned (.bool true) ∧ Below wx.heap.size wx w') := hide (fun wx h => by have := refCheckN_any a A0 n0 c0 wx h n9 hn0; rwa [hca] at this)
  have HRb : Hid (∀ wx, NdOn wx A1 n1 b → Calls Tryz.prog 10 #[.slice A1 n1 c1] wx fun e w' => e = .returned (.bool true) ∧ Below wx.heap.size wx w') := hide (fun wx h => by have := refCheckN_any b A1 n1 c1 wx h n9b hn1; rwa [hcb] at this)
  have HS := hide (fun wx (h : NdOn wx A0 n0 a) (h' : NdOn wx A1 n1 b) => sameN_any a b A0 A1 n0 c0 n1 c1 wx h h' sa sb hn0)
  have HRS := hide (fun wx (h : NdOn wx A0 n0 a) (h' : NdOn wx A1 n1 b) => refSameN_any a b A0 A1 n0 c0 n1 c1 wx h h' sa sb hn0)
  have HF := hide (fun wx (h : NdOn wx A0 n0 a) => findN_any a nm A0 n0 c0 wx h (fun q hq => by have := qa q hq; omega) hn0)
  have HRF := hide (fun wx (h : NdOn wx A0 n0 a) => refFindN_any a nm A0 n0 c0 wx h hn0)
  have hfl : ((findS a nm).getD []).length ≤ 40 := by
    cases hf : findS a nm with
    | none => exact Nat.zero_le _
    | some s => exact (qa _ (find_in hf)).2
  have HSS := hide (fun wx {A n c A' n' c'} (h : SpOn wx A n ((findS a nm).getD [])) (h' : SpOn wx A' n' ((findS a nm).getD [])) => refSame_yes (c := c) (c' := c') h h' (by have := h.len; omega) rfl)
  obtain ⟨oa1, oa2, oa3, oa4⟩ := okS_parts hca
  obtain ⟨ob1, ob2, ob3, ob4⟩ := okS_parts hcb
  have HB := hide (fun wx (h : NdOn wx A0 n0 a) (h' : NdOn wx A1 n1 b) => bothN_any a b A0 A1 n0 c0 n1 c1 wx h h' (fun q hq => ⟨by have := qa q hq; omega, (oa4 q hq).1⟩) (fun q hq => ⟨by have := qb q hq; omega, (ob4 q hq).1⟩) (by have := h.len; omega) (by have := h'.len; omega))
  have HRB := hide (fun wx (h : NdOn wx A0 n0 a) (h' : NdOn wx A1 n1 b) => refBothN_any a b A0 A1 n0 c0 n1 c1 wx h h' oa3 ob3 (fun q hq => by have := qa q hq; omega) (fun q hq => by have := qb q hq; omega) (by have := h.len; omega) (by have := h'.len; omega))
  have sm : Short (mergeS a b) := fun q hq => Nat.le_trans (len_le (merge_sets (fun q hq => (oa4 q hq).1) (fun q hq => (ob4 q hq).1) q hq)) (by decide)
  have lm : (mergeS a b).length ≤ 80 := by have := @merge_len a b; omega
  have HBB : Hid (∀ wx {A n c A' n' c'}, NdOn wx A n (mergeS a b) → NdOn wx A' n' (mergeS a b) → Calls Tryz.prog 12 #[.slice A n c, .slice A' n' c'] wx fun e w' => e = .returned (.bool true) ∧ Below wx.heap.size wx w') := hide (fun wx A n c A' n' c' h h' => by have := refSameN_any (mergeS a b) (mergeS a b) A A' n c n' c' wx h h' sm sm (by have := h.len; omega); rwa [decide_eq_true rfl] at this)
  clear sm lm oa1 oa2 oa3 oa4 ob1 ob2 ob3 ob4
  unfold Finds at HF HRF
  generalize (findS a nm).isSome = fi at *
  generalize (findS a nm).getD [] = fs at *
  generalize decide (a = b) = q at *
  generalize mergeS a b = M at *
  clear hT la lb qa qb sa sb na n9 n9b hla hlb hca hcb hfl
  go_enter Tryz.func3, Tryz.ntmps3
  go_wp2_with (first
    | (go_at_call 9
       refine (HC.out _ h0).mono ?_
       rintro e wn ⟨rfl, hbx⟩
       try have h0 := NdOn.on h0 hbx
       try have h1 := NdOn.on h1 hbx
       try have h3 := SpOn.on h3 hbx
       try have h4 := SpOn.on h4 hbx
       try have h5 := NdOn.on h5 hbx
       try have h6 := NdOn.on h6 hbx
       have hbw := hbw.trans (hbx.mono hbw.size))
    | (go_at_call_of 10 (Value.slice A0 n0 c0)
       refine (HRa.out _ h0).mono ?_
       rintro e wn ⟨rfl, hbx⟩
       try have h0 := NdOn.on h0 hbx
       try have h1 := NdOn.on h1 hbx
       try have h3 := SpOn.on h3 hbx
       try have h4 := SpOn.on h4 hbx
       try have h5 := NdOn.on h5 hbx
       try have h6 := NdOn.on h6 hbx
       have hbw := hbw.trans (hbx.mono hbw.size))
    | (go_at_call_of 10 (Value.slice A1 n1 c1)
       refine (HRb.out _ h1).mono ?_
       rintro e wn ⟨rfl, hbx⟩
       try have h0 := NdOn.on h0 hbx
       try have h1 := NdOn.on h1 hbx
       try have h3 := SpOn.on h3 hbx
       try have h4 := SpOn.on h4 hbx
       try have h5 := NdOn.on h5 hbx
       try have h6 := NdOn.on h6 hbx
       have hbw := hbw.trans (hbx.mono hbw.size))
    | (go_at_call 14
       refine (HB.out _ h0 h1).mono ?_
       rintro e wn ⟨A5, n5, c5, rfl, h5, hbx⟩
       try have h0 := NdOn.on h0 hbx
       try have h1 := NdOn.on h1 hbx
       try have h3 := SpOn.on h3 hbx
       try have h4 := SpOn.on h4 hbx
       try have h6 := NdOn.on h6 hbx
       have hbw := hbw.trans (hbx.mono hbw.size))
    | (go_at_call 15
       refine (HRB.out _ h0 h1).mono ?_
       rintro e wn ⟨A6, n6, c6, rfl, h6, hbx⟩
       try have h0 := NdOn.on h0 hbx
       try have h1 := NdOn.on h1 hbx
       try have h3 := SpOn.on h3 hbx
       try have h4 := SpOn.on h4 hbx
       try have h5 := NdOn.on h5 hbx
       have hbw := hbw.trans (hbx.mono hbw.size))
    | (go_at_call_of 12 (Value.slice A5 n5 c5)
       refine (HBB.out _ h5 h6).mono ?_
       rintro e wn ⟨rfl, hbx⟩
       try have h0 := NdOn.on h0 hbx
       try have h1 := NdOn.on h1 hbx
       try have h3 := SpOn.on h3 hbx
       try have h4 := SpOn.on h4 hbx
       try have h5 := NdOn.on h5 hbx
       try have h6 := NdOn.on h6 hbx
       have hbw := hbw.trans (hbx.mono hbw.size))
    | (go_at_call_of 12 (Value.slice A0 n0 c0)
       refine (HRS.out _ h0 h1).mono ?_
       rintro e wn ⟨rfl, hbx⟩
       try have h0 := NdOn.on h0 hbx
       try have h1 := NdOn.on h1 hbx
       try have h3 := SpOn.on h3 hbx
       try have h4 := SpOn.on h4 hbx
       try have h5 := NdOn.on h5 hbx
       try have h6 := NdOn.on h6 hbx
       have hbw := hbw.trans (hbx.mono hbw.size))
    | (go_at_call 11
       refine (HS.out _ h0 h1).mono ?_
       rintro e wn ⟨rfl, hbx⟩
       try have h0 := NdOn.on h0 hbx
       try have h1 := NdOn.on h1 hbx
       try have h3 := SpOn.on h3 hbx
       try have h4 := SpOn.on h4 hbx
       try have h5 := NdOn.on h5 hbx
       try have h6 := NdOn.on h6 hbx
       have hbw := hbw.trans (hbx.mono hbw.size))
    | (go_at_call 7
       refine (HF.out _ h0).mono ?_
       rintro e wn ⟨A3, n3, c3, rfl, h3, hbx⟩
       try have h0 := NdOn.on h0 hbx
       try have h1 := NdOn.on h1 hbx
       try have h4 := SpOn.on h4 hbx
       try have h5 := NdOn.on h5 hbx
       try have h6 := NdOn.on h6 hbx
       have hbw := hbw.trans (hbx.mono hbw.size))
    | (go_at_call 8
       refine (HRF.out _ h0).mono ?_
       rintro e wn ⟨A4, n4, c4, rfl, h4, hbx⟩
       try have h0 := NdOn.on h0 hbx
       try have h1 := NdOn.on h1 hbx
       try have h3 := SpOn.on h3 hbx
       try have h5 := NdOn.on h5 hbx
       try have h6 := NdOn.on h6 hbx
       have hbw := hbw.trans (hbx.mono hbw.size))
    | (go_at_call 13
       refine (HSS.out _ h3 h4).mono ?_
       rintro e wn ⟨rfl, hbx⟩
       try have h0 := NdOn.on h0 hbx
       try have h1 := NdOn.on h1 hbx
       try have h3 := SpOn.on h3 hbx
       try have h4 := SpOn.on h4 hbx
       try have h5 := NdOn.on h5 hbx
       try have h6 := NdOn.on h6 hbx
       have hbw := hbw.trans (hbx.mono hbw.size))
    | (go_at_call_of 5 (Value.slice A0 n0 c0)
       refine (HLa.out _ h0).mono ?_
       rintro e wn ⟨rfl, hbx⟩
       try have h0 := NdOn.on h0 hbx
       try have h1 := NdOn.on h1 hbx
       try have h3 := SpOn.on h3 hbx
       try have h4 := SpOn.on h4 hbx
       try have h5 := NdOn.on h5 hbx
       try have h6 := NdOn.on h6 hbx
       have hbw := hbw.trans (hbx.mono hbw.size))
    | (go_at_call_of 5 (Value.slice A1 n1 c1)
       refine (HLb.out _ h1).mono ?_
       rintro e wn ⟨rfl, hbx⟩
       try have h0 := NdOn.on h0 hbx
       try have h1 := NdOn.on h1 hbx
       try have h3 := SpOn.on h3 hbx
       try have h4 := SpOn.on h4 hbx
       try have h5 := NdOn.on h5 hbx
       try have h6 := NdOn.on h6 hbx
       have hbw := hbw.trans (hbx.mono hbw.size))
    | (go_at_call 6
       refine (HT.out _ hbw).mono ?_
       rintro e wn ⟨rfl, hbx⟩
       have hbw := hbw.trans (hbx.mono hbw.size)))
  go_ret
  exact ⟨rfl, hbw⟩
theorem lists_walk (a b : List Nd) (nm : ByteArray) (A0 : Option Addr) (n0 c0 : Nat) (A1 : Option Addr) (n1 c1 : Nat) (w : World) (hn0 : n0 ≤ 9223372036854775807) (hn1 : n1 ≤ 9223372036854775807)
    (h0 : NdOn w A0 n0 a) (h1 : NdOn w A1 n1 b) (hT : Tabs w) :
    Calls Tryz.prog 3 #[.slice A0 n0 c0, .slice A1 n1 c1, .string nm] w fun e w' => e = .returned (.bool true) ∧ Below w.heap.size w w' := by
  cases hla : large a with
  | true => exact lists_la a b nm A0 n0 c0 A1 n1 c1 w hn0 hn1 h0 h1 hT hla
  | false =>
    cases hlb : large b with
    | true => exact lists_lb a b nm A0 n0 c0 A1 n1 c1 w hn0 hn1 h0 h1 hT hla hlb
    | false =>
      cases hca : okS a with
      | false => exact lists_ca a b nm A0 n0 c0 A1 n1 c1 w hn0 hn1 h0 h1 hT hla hlb hca
      | true =>
        cases hcb : okS b with
        | false => exact lists_cb a b nm A0 n0 c0 A1 n1 c1 w hn0 hn1 h0 h1 hT hla hlb hca hcb
        | true => exact lists_ok a b nm A0 n0 c0 A1 n1 c1 w hn0 hn1 h0 h1 hT hla hlb hca hcb
end Go.Proofs.YtmcpdcfeappokaaGreatDoor.Need
/-
  What both need, place by place: a need of both is of the one, of the other, or of both; and the contracts of Find and Both that this law calls, in one form. No condition.
-/
namespace Go.Proofs.YtmcpdcfeappokaaGreatDoor.Need
open Go Go.RowKit Go.Lib Go.Proofs.YtmcpdcfeappokaaGreatDoor.Span
set_option linter.unusedVariables false
theorem has_both {x y : List S} (hx : isSet (-1) x = true) (p : Int) : has (meetS x y) p = (has x p && has y p) := by
  by_cases hp : 0 ≤ p ∧ p < 1000000000
  · exact has_meet hp.1 hp.2
  · have h1 : has (meetS x y) p = false := by
      cases h : has (meetS x y) p with
      | false => rfl
      | true => exact absurd (has_range (nf_set _) h) (by omega)
    have h2 : has x p = false := by
      cases h : has x p with
      | false => rfl
      | true => exact absurd (has_range hx h) (by omega)
    rw [h1, h2]; rfl
theorem both_at {a b : List Nd} (ha : Rises a) (hb : Rises b) (sa : ∀ q ∈ a, isSet (-1) q.2 = true) {i : Nat} {nm : ByteArray} {s : List S} (h : (mergeS a b)[i]? = some (nm, s)) (p : Int) :
    (∃ x y, findS a nm = some x ∧ findS b nm = some y ∧ has s p = (has x p && has y p)) ∨ (∃ x, findS a nm = some x ∧ findS b nm = none ∧ has s p = has x p) ∨ ∃ y, findS a nm = none ∧ findS b nm = some y ∧ has s p = has y p := by
  have hf := find_mem (merge_rises ha hb) (List.mem_of_getElem? h)
  have hm := find_merge ha hb nm
  rw [hf] at hm
  cases e1 : findS a nm with
  | none =>
    cases e2 : findS b nm with
    | none => rw [e1, e2] at hm; cases hm
    | some y =>
      rw [e1, e2] at hm
      have e : s = y := by injection hm
      exact .inr (.inr ⟨y, rfl, rfl, by rw [e]⟩)
  | some x =>
    cases e2 : findS b nm with
    | none =>
      rw [e1, e2] at hm
      have e : s = x := by injection hm
      exact .inr (.inl ⟨x, rfl, rfl, by rw [e]⟩)
    | some y =>
      rw [e1, e2] at hm
      have e : s = meetS x y := by injection hm
      exact .inl ⟨x, y, rfl, rfl, by rw [e]; exact has_both (sa _ (find_in e1)) p⟩
theorem in_both {a b : List Nd} (ha : Rises a) (hb : Rises b) {q : Nd} (h : q ∈ a ∨ q ∈ b) : ∃ t, findS (mergeS a b) q.1 = some t := by
  have hm := find_merge ha hb q.1
  rcases h with h | h
  · rw [find_mem ha h] at hm
    cases e : findS b q.1 with
    | none => rw [e] at hm; exact ⟨_, hm⟩
    | some y => rw [e] at hm; exact ⟨_, hm⟩
  · rw [find_mem hb h] at hm
    cases e : findS a q.1 with
    | none => rw [e] at hm; exact ⟨_, hm⟩
    | some y => rw [e] at hm; exact ⟨_, hm⟩
theorem rises_at {l : List Nd} (h : Rises l) {j : Nat} {q q' : Nd} (h1 : l[j]? = some q) (h2 : l[j + 1]? = some q') : nlt q.1 q'.1 = true := by
  obtain ⟨k1, e1⟩ := List.getElem?_eq_some_iff.1 h1
  obtain ⟨k2, e2⟩ := List.getElem?_eq_some_iff.1 h2
  rw [← e1, ← e2]
  exact List.pairwise_iff_getElem.1 h j (j + 1) k1 k2 (by omega)
theorem find_yes {l : List Nd} {nm : ByteArray} {A : Option Addr} {n c : Nat} {w : World} {x : List S} (h : NdOn w A n l) (hl : ∀ q ∈ l, q.1.size ≤ 1000000000 ∧ q.2.length ≤ 1000000001) (hn : n ≤ 140737488355328) (e : findS l nm = some x) :
    Calls Tryz.prog 7 #[.slice A n c, .string nm] w fun e w' => ∃ A n c, e = .returned (.tuple #[.slice A n c, .bool true]) ∧ SpOn w' A n x ∧ Below w.heap.size w w' := by
  have := findN_any l nm A n c w h hl hn
  rw [e] at this
  exact this
theorem find_no {l : List Nd} {nm : ByteArray} {A : Option Addr} {n c : Nat} {w : World} (h : NdOn w A n l) (hl : ∀ q ∈ l, q.1.size ≤ 1000000000 ∧ q.2.length ≤ 1000000001) (hn : n ≤ 140737488355328) (e : findS l nm = none) :
    Calls Tryz.prog 7 #[.slice A n c, .string nm] w fun e w' => ∃ A n c, e = .returned (.tuple #[.slice A n c, .bool false]) ∧ SpOn w' A n [] ∧ Below w.heap.size w w' := by
  have := findN_any l nm A n c w h hl hn
  rw [e] at this
  exact this
theorem refHas_set {B n c : Nat} {A : Option Addr} {l : List S} (p : Int) (w : World) (h : SpIn w B A n l) (hn : n ≤ 1000000001) (hs : isSet (-1) l = true) :
    Calls Tryz.prog 16 #[.slice A n c, .int .i64 p] w fun e w' => e = .returned (.bool (has l p)) ∧ w = w' := by
  have := refHas_any (c := c) p w h hn
  have e : (has l p && (decide (0 ≤ p) && decide (p < 1000000000))) = has l p := by
    cases hh : has l p with
    | false => rfl
    | true => have := has_range hs hh; simp; omega
  rwa [e] at this
theorem both_nil {a : List Nd} {A : Option Addr} {n c : Nat} {w : World} (h : NdOn w A n a) (hs : ∀ q ∈ a, q.1.size ≤ 1000000000 ∧ isSet (-1) q.2 = true) (hn : n ≤ 1000000) :
    Calls Tryz.prog 14 #[.slice A n c, .slice none 0 0] w fun e w' => ∃ A n c, e = .returned (.slice A n c) ∧ NdOn w' A n a ∧ Below w.heap.size w w' := by
  have := bothN_any a [] A none n c 0 0 w h (NdIn.nil _ _ _) hs (fun q hq => nomatch hq) hn (by omega)
  rwa [merge_nil] at this
theorem nil_both {a : List Nd} {A : Option Addr} {n c : Nat} {w : World} (h : NdOn w A n a) (hs : ∀ q ∈ a, q.1.size ≤ 1000000000 ∧ isSet (-1) q.2 = true) (hn : n ≤ 1000000) :
    Calls Tryz.prog 14 #[.slice none 0 0, .slice A n c] w fun e w' => ∃ A n c, e = .returned (.slice A n c) ∧ NdOn w' A n a ∧ Below w.heap.size w w' := by
  have := bothN_any [] a none A 0 0 n c w (NdIn.nil _ _ _) h (fun q hq => nomatch hq) hs (by omega) hn
  rwa [merge_nil_left] at this
theorem sameN_yes {a : List Nd} {A A' : Option Addr} {n c n' c' : Nat} {w : World} (h : NdOn w A n a) (h' : NdOn w A' n' a) (hs : Short a) (hn : n ≤ 140737488355328) :
    Calls Tryz.prog 11 #[.slice A n c, .slice A' n' c'] w fun e w' => e = .returned (.bool true) ∧ Below w.heap.size w w' := by
  have := sameN_any a a A A' n c n' c' w h h' hs hs hn
  rwa [decide_eq_true rfl] at this
end Go.Proofs.YtmcpdcfeappokaaGreatDoor.Need
/-
  The walk of NeedBoth: any two lists, any place. Condition: the tables hold what the texts lay in them.
-/
namespace Go.Proofs.YtmcpdcfeappokaaGreatDoor.Need
open Go Go.RowKit Go.Lib Go.Proofs.YtmcpdcfeappokaaGreatDoor.Span
open Go.Proofs.YtmcpdcfeappokaaGreatDoor.Ver (Tabs)
set_option linter.unusedVariables false
set_option maxHeartbeats 16000000 in
set_option maxRecDepth 100000 in
theorem bothW_la (a b : List Nd) (p : Int) (A0 : Option Addr) (n0 c0 : Nat) (A1 : Option Addr) (n1 c1 : Nat) (w : World) (hn0 : n0 ≤ 9223372036854775807) (hn1 : n1 ≤ 9223372036854775807)
    (h0 : NdOn w A0 n0 a) (h1 : NdOn w A1 n1 b) (hT : Tabs w)
    (hla : large a = true) :
    Calls Tryz.prog 4 #[.slice A0 n0 c0, .slice A1 n1 c1, .int .i64 p] w fun e w' => e = .returned (.bool true) ∧ Below w.heap.size w w' := by
  have hbw : Below w.heap.size w w := Below.refl _ _
  have HT := hide (fun wx (hb : Below w.heap.size w wx) => awake_any wx (hT.below hb))
  have HLa : Hid (∀ wx, NdOn wx A0 n0 a → Calls Tryz.prog 5 #[.slice A0 n0 c0] wx fun e w' => e = .returned (.bool true) ∧ Below wx.heap.size wx w') := hide (fun wx h => by have := large_any a A0 n0 c0 wx h hn0; rwa [hla] at this)
  clear hT
  go_enter Tryz.func4, Tryz.ntmps4
  go_wp2_with (first
    | (go_at_call_of 5 (Value.slice A0 n0 c0)
       refine (HLa.out _ h0).mono ?_
       rintro e wn ⟨rfl, hbx⟩
       try have h0 := NdOn.on h0 hbx
       try have h1 := NdOn.on h1 hbx
       try have h3 := SpOn.on h3 hbx
       try have h4 := SpOn.on h4 hbx
       try have h5 := NdOn.on h5 hbx
       try have h7 := NdOn.on h7 hbx
       try have h8 := NdOn.on h8 hbx
       have hbw := hbw.trans (hbx.mono hbw.size))
    | (go_at_call_of 5 (Value.slice A1 n1 c1)
       refine (HLb.out _ h1).mono ?_
       rintro e wn ⟨rfl, hbx⟩
       try have h0 := NdOn.on h0 hbx
       try have h1 := NdOn.on h1 hbx
       try have h3 := SpOn.on h3 hbx
       try have h4 := SpOn.on h4 hbx
       try have h5 := NdOn.on h5 hbx
       try have h7 := NdOn.on h7 hbx
       try have h8 := NdOn.on h8 hbx
       have hbw := hbw.trans (hbx.mono hbw.size))
    | (go_at_call 6
       refine (HT.out _ hbw).mono ?_
       rintro e wn ⟨rfl, hbx⟩
       have hbw := hbw.trans (hbx.mono hbw.size)))
  go_ret
  exact ⟨rfl, hbw⟩
set_option maxHeartbeats 16000000 in
set_option maxRecDepth 100000 in
theorem bothW_lb (a b : List Nd) (p : Int) (A0 : Option Addr) (n0 c0 : Nat) (A1 : Option Addr) (n1 c1 : Nat) (w : World) (hn0 : n0 ≤ 9223372036854775807) (hn1 : n1 ≤ 9223372036854775807)
    (h0 : NdOn w A0 n0 a) (h1 : NdOn w A1 n1 b) (hT : Tabs w)
    (hla : large a = false) (hlb : large b = true) :
    Calls Tryz.prog 4 #[.slice A0 n0 c0, .slice A1 n1 c1, .int .i64 p] w fun e w' => e = .returned (.bool true) ∧ Below w.heap.size w w' := by
  have hbw : Below w.heap.size w w := Below.refl _ _
  have HT := hide (fun wx (hb : Below w.heap.size w wx) => awake_any wx (hT.below hb))
  have HLa : Hid (∀ wx, NdOn wx A0 n0 a → Calls Tryz.prog 5 #[.slice A0 n0 c0] wx fun e w' => e = .returned (.bool false) ∧ Below wx.heap.size wx w') := hide (fun wx h => by have := large_any a A0 n0 c0 wx h hn0; rwa [hla] at this)
  have HLb : Hid (∀ wx, NdOn wx A1 n1 b → Calls Tryz.prog 5 #[.slice A1 n1 c1] wx fun e w' => e = .returned (.bool true) ∧ Below wx.heap.size wx w') := hide (fun wx h => by have := large_any b A1 n1 c1 wx h hn1; rwa [hlb] at this)
  clear hT
  go_enter Tryz.func4, Tryz.ntmps4
  go_wp2_with (first
    | (go_at_call_of 5 (Value.slice A0 n0 c0)
       refine (HLa.out _ h0).mono ?_
       rintro e wn ⟨rfl, hbx⟩
       try have h0 := NdOn.on h0 hbx
       try have h1 := NdOn.on h1 hbx
       try have h3 := SpOn.on h3 hbx
       try have h4 := SpOn.on h4 hbx
       try have h5 := NdOn.on h5 hbx
       try have h7 := NdOn.on h7 hbx
       try have h8 := NdOn.on h8 hbx
       have hbw := hbw.trans (hbx.mono hbw.size))
    | (go_at_call_of 5 (Value.slice A1 n1 c1)
       refine (HLb.out _ h1).mono ?_
       rintro e wn ⟨rfl, hbx⟩
       try have h0 := NdOn.on h0 hbx
       try have h1 := NdOn.on h1 hbx
       try have h3 := SpOn.on h3 hbx
       try have h4 := SpOn.on h4 hbx
       try have h5 := NdOn.on h5 hbx
       try have h7 := NdOn.on h7 hbx
       try have h8 := NdOn.on h8 hbx
       have hbw := hbw.trans (hbx.mono hbw.size))
    | (go_at_call 6
       refine (HT.out _ hbw).mono ?_
       rintro e wn ⟨rfl, hbx⟩
       have hbw := hbw.trans (hbx.mono hbw.size)))
  go_ret
  exact ⟨rfl, hbw⟩
set_option maxHeartbeats 16000000 in
set_option maxRecDepth 100000 in
theorem bothW_ca (a b : List Nd) (p : Int) (A0 : Option Addr) (n0 c0 : Nat) (A1 : Option Addr) (n1 c1 : Nat) (w : World) (hn0 : n0 ≤ 9223372036854775807) (hn1 : n1 ≤ 9223372036854775807)
    (h0 : NdOn w A0 n0 a) (h1 : NdOn w A1 n1 b) (hT : Tabs w)
    (hla : large a = false) (hlb : large b = false) (hca : okS a = false) :
    Calls Tryz.prog 4 #[.slice A0 n0 c0, .slice A1 n1 c1, .int .i64 p] w fun e w' => e = .returned (.bool true) ∧ Below w.heap.size w w' := by
  have hbw : Below w.heap.size w w := Below.refl _ _
  have HT := hide (fun wx (hb : Below w.heap.size w wx) => awake_any wx (hT.below hb))
  obtain ⟨la, qa⟩ := not_large hla
  obtain ⟨lb, qb⟩ := not_large hlb
  have HLa : Hid (∀ wx, NdOn wx A0 n0 a → Calls Tryz.prog 5 #[.slice A0 n0 c0] wx fun e w' => e = .returned (.bool false) ∧ Below wx.heap.size wx w') := hide (fun wx h => by have := large_any a A0 n0 c0 wx h hn0; rwa [hla] at this)
  have HLb : Hid (∀ wx, NdOn wx A1 n1 b → Calls Tryz.prog 5 #[.slice A1 n1 c1] wx fun e w' => e = .returned (.bool false) ∧ Below wx.heap.size wx w') := hide (fun wx h => by have := large_any b A1 n1 c1 wx h hn1; rwa [hlb] at this)
  have HCa : Hid (∀ wx, NdOn wx A0 n0 a → Calls Tryz.prog 9 #[.slice A0 n0 c0] wx fun e w' => e = .returned (.bool false) ∧ Below wx.heap.size wx w') := hide (fun wx h => by have := checkN_any a A0 n0 c0 wx h (fun q hq => by have := qa q hq; omega) (by have := h.len; omega); rwa [hca] at this)
  clear hT
  go_enter Tryz.func4, Tryz.ntmps4
  go_wp2_with (first
    | (go_at_call_of 5 (Value.slice A0 n0 c0)
       refine (HLa.out _ h0).mono ?_
       rintro e wn ⟨rfl, hbx⟩
       try have h0 := NdOn.on h0 hbx
       try have h1 := NdOn.on h1 hbx
       try have h3 := SpOn.on h3 hbx
       try have h4 := SpOn.on h4 hbx
       try have h5 := NdOn.on h5 hbx
       try have h7 := NdOn.on h7 hbx
       try have h8 := NdOn.on h8 hbx
       have hbw := hbw.trans (hbx.mono hbw.size))
    | (go_at_call_of 5 (Value.slice A1 n1 c1)
       refine (HLb.out _ h1).mono ?_
       rintro e wn ⟨rfl, hbx⟩
       try have h0 := NdOn.on h0 hbx
       try have h1 := NdOn.on h1 hbx
       try have h3 := SpOn.on h3 hbx
       try have h4 := SpOn.on h4 hbx
       try have h5 := NdOn.on h5 hbx
       try have h7 := NdOn.on h7 hbx
       try have h8 := NdOn.on h8 hbx
       have hbw := hbw.trans (hbx.mono hbw.size))
    | (go_at_call_of 9 (Value.slice A0 n0 c0)
       refine (HCa.out _ h0).mono ?_
       rintro e wn ⟨rfl, hbx⟩
       try have h0 := NdOn.on h0 hbx
       try have h1 := NdOn.on h1 hbx
       try have h3 := SpOn.on h3 hbx
       try have h4 := SpOn.on h4 hbx
       try have h5 := NdOn.on h5 hbx
       try have h7 := NdOn.on h7 hbx
       try have h8 := NdOn.on h8 hbx
       have hbw := hbw.trans (hbx.mono hbw.size))
    | (go_at_call 6
       refine (HT.out _ hbw).mono ?_
       rintro e wn ⟨rfl, hbx⟩
       have hbw := hbw.trans (hbx.mono hbw.size)))
  go_ret
  exact ⟨rfl, hbw⟩
set_option maxHeartbeats 16000000 in
set_option maxRecDepth 100000 in
theorem bothW_cb (a b : List Nd) (p : Int) (A0 : Option Addr) (n0 c0 : Nat) (A1 : Option Addr) (n1 c1 : Nat) (w : World) (hn0 : n0 ≤ 9223372036854775807) (hn1 : n1 ≤ 9223372036854775807)
    (h0 : NdOn w A0 n0 a) (h1 : NdOn w A1 n1 b) (hT : Tabs w)
    (hla : large a = false) (hlb : large b = false) (hca : okS a = true) (hcb : okS b = false) :
    Calls Tryz.prog 4 #[.slice A0 n0 c0, .slice A1 n1 c1, .int .i64 p] w fun e w' => e = .returned (.bool true) ∧ Below w.heap.size w w' := by
  have hbw : Below w.heap.size w w := Below.refl _ _
  have HT := hide (fun wx (hb : Below w.heap.size w wx) => awake_any wx (hT.below hb))
  obtain ⟨la, qa⟩ := not_large hla
  obtain ⟨lb, qb⟩ := not_large hlb
  have HLa : Hid (∀ wx, NdOn wx A0 n0 a → Calls Tryz.prog 5 #[.slice A0 n0 c0] wx fun e w' => e = .returned (.bool false) ∧ Below wx.heap.size wx w') := hide (fun wx h => by have := large_any a A0 n0 c0 wx h hn0; rwa [hla] at this)
  have HLb : Hid (∀ wx, NdOn wx A1 n1 b → Calls Tryz.prog 5 #[.slice A1 n1 c1] wx fun e w' => e = .returned (.bool false) ∧ Below wx.heap.size wx w') := hide (fun wx h => by have := large_any b A1 n1 c1 wx h hn1; rwa [hlb] at this)
  have HCa : Hid (∀ wx, NdOn wx A0 n0 a → Calls Tryz.prog 9 #[.slice A0 n0 c0] wx fun e w' => e = .returned (.bool true) ∧ Below wx.heap.size wx w') := hide (fun wx h => by have := checkN_any a A0 n0 c0 wx h (fun q hq => by have := qa q hq; omega) (by have := h.len; omega); rwa [hca] at this)
  have HCb : Hid (∀ wx, NdOn wx A1 n1 b → Calls Tryz.prog 9 #[.slice A1 n1 c1] wx fun e w' => e = .returned (.bool false) ∧ Below wx.heap.size wx w') := hide (fun wx h => by have := checkN_any b A1 n1 c1 wx h (fun q hq => by have := qb q hq; omega) (by have := h.len; omega); rwa [hcb] at this)
  clear hT
  go_enter Tryz.func4, Tryz.ntmps4
  go_wp2_with (first
    | (go_at_call_of 5 (Value.slice A0 n0 c0)
       refine (HLa.out _ h0).mono ?_
       rintro e wn ⟨rfl, hbx⟩
       try have h0 := NdOn.on h0 hbx
       try have h1 := NdOn.on h1 hbx
       try have h3 := SpOn.on h3 hbx
       try have h4 := SpOn.on h4 hbx
       try have h5 := NdOn.on h5 hbx
       try have h7 := NdOn.on h7 hbx
       try have h8 := NdOn.on h8 hbx
       have hbw := hbw.trans (hbx.mono hbw.size))
    | (go_at_call_of 5 (Value.slice A1 n1 c1)
       refine (HLb.out _ h1).mono ?_
       rintro e wn ⟨rfl, hbx⟩
       try have h0 := NdOn.on h0 hbx
       try have h1 := NdOn.on h1 hbx
       try have h3 := SpOn.on h3 hbx
       try have h4 := SpOn.on h4 hbx
       try have h5 := NdOn.on h5 hbx
       try have h7 := NdOn.on h7 hbx
       try have h8 := NdOn.on h8 hbx
       have hbw := hbw.trans (hbx.mono hbw.size))
    | (go_at_call_of 9 (Value.slice A0 n0 c0)
       refine (HCa.out _ h0).mono ?_
       rintro e wn ⟨rfl, hbx⟩
       try have h0 := NdOn.on h0 hbx
       try have h1 := NdOn.on h1 hbx
       try have h3 := SpOn.on h3 hbx
       try have h4 := SpOn.on h4 hbx
       try have h5 := NdOn.on h5 hbx
       try have h7 := NdOn.on h7 hbx
       try have h8 := NdOn.on h8 hbx
       have hbw := hbw.trans (hbx.mono hbw.size))
    | (go_at_call_of 9 (Value.slice A1 n1 c1)
       refine (HCb.out _ h1).mono ?_
       rintro e wn ⟨rfl, hbx⟩
       try have h0 := NdOn.on h0 hbx
       try have h1 := NdOn.on h1 hbx
       try have h3 := SpOn.on h3 hbx
       try have h4 := SpOn.on h4 hbx
       try have h5 := NdOn.on h5 hbx
       try have h7 := NdOn.on h7 hbx
       try have h8 := NdOn.on h8 hbx
       have hbw := hbw.trans (hbx.mono hbw.size))
    | (go_at_call 6
       refine (HT.out _ hbw).mono ?_
       rintro e wn ⟨rfl, hbx⟩
       have hbw := hbw.trans (hbx.mono hbw.size)))
  go_ret
  exact ⟨rfl, hbw⟩
set_option maxHeartbeats 16000000 in
set_option maxRecDepth 100000 in
theorem bothW_ok (a b : List Nd) (p : Int) (A0 : Option Addr) (n0 c0 : Nat) (A1 : Option Addr) (n1 c1 : Nat) (w : World) (hn0 : n0 ≤ 9223372036854775807) (hn1 : n1 ≤ 9223372036854775807)
    (h0 : NdOn w A0 n0 a) (h1 : NdOn w A1 n1 b) (hT : Tabs w)
    (hla : large a = false) (hlb : large b = false) (hca : okS a = true) (hcb : okS b = true) :
    Calls Tryz.prog 4 #[.slice A0 n0 c0, .slice A1 n1 c1, .int .i64 p] w fun e w' => e = .returned (.bool true) ∧ Below w.heap.size w w' := by
  have hbw : Below w.heap.size w w := Below.refl _ _
  have HT := hide (fun wx (hb : Below w.heap.size w wx) => awake_any wx (hT.below hb))
  obtain ⟨la, qa⟩ := not_large hla
  obtain ⟨lb, qb⟩ := not_large hlb
  have HLa : Hid (∀ wx, NdOn wx A0 n0 a → Calls Tryz.prog 5 #[.slice A0 n0 c0] wx fun e w' => e = .returned (.bool false) ∧ Below wx.heap.size wx w') := hide (fun wx h => by have := large_any a A0 n0 c0 wx h hn0; rwa [hla] at this)
  have HLb : Hid (∀ wx, NdOn wx A1 n1 b → Calls Tryz.prog 5 #[.slice A1 n1 c1] wx fun e w' => e = .returned (.bool false) ∧ Below wx.heap.size wx w') := hide (fun wx h => by have := large_any b A1 n1 c1 wx h hn1; rwa [hlb] at this)
  have HCa : Hid (∀ wx, NdOn wx A0 n0 a → Calls Tryz.prog 9 #[.slice A0 n0 c0] wx fun e w' => e = .returned (.bool true) ∧ Below wx.heap.size wx w') := hide (fun wx h => by have := checkN_any a A0 n0 c0 wx h (fun q hq => by have := qa q hq; omega) (by have := h.len; omega); rwa [hca] at this)
  have HCb : Hid (∀ wx, NdOn wx A1 n1 b → Calls Tryz.prog 9 #[.slice A1 n1 c1] wx fun e w' => e = .returned (.bool true) ∧ Below wx.heap.size wx w') := hide (fun wx h => by have := checkN_any b A1 n1 c1 wx h (fun q hq => by have := qb q hq; omega) (by have := h.len; omega); rwa [hcb] at this)
  obtain ⟨oa1, oa2, oa3, oa4⟩ := okS_parts hca
  obtain ⟨ob1, ob2, ob3, ob4⟩ := okS_parts hcb
  have Sa : ∀ q ∈ a, q.1.size ≤ 1000000000 ∧ isSet (-1) q.2 = true := fun q hq => ⟨by have := qa q hq; omega, (oa4 q hq).1⟩
  have Sb : ∀ q ∈ b, q.1.size ≤ 1000000000 ∧ isSet (-1) q.2 = true := fun q hq => ⟨by have := qb q hq; omega, (ob4 q hq).1⟩
  have Fa : ∀ q ∈ a, q.1.size ≤ 1000000000 ∧ q.2.length ≤ 1000000001 := fun q hq => by have := qa q hq; omega
  have Fb : ∀ q ∈ b, q.1.size ≤ 1000000000 ∧ q.2.length ≤ 1000000001 := fun q hq => by have := qb q hq; omega
  have Ms := merge_sets (fun q hq => (Sa q hq).2) (fun q hq => (Sb q hq).2)
  have Fm : ∀ q ∈ mergeS a b, q.1.size ≤ 1000000000 ∧ q.2.length ≤ 1000000001 := fun q hq => by
    refine ⟨?_, len_le (Ms q hq)⟩
    rcases merge_mem q hq with ⟨x, hx, e⟩ | ⟨x, hx, e⟩
    · rw [e]; exact (Sa x hx).1
    · rw [e]; exact (Sb x hx).1
  have sa : Short a := fun q hq => (Fa q hq).2
  have HB := hide (fun wx (h : NdOn wx A0 n0 a) (h' : NdOn wx A1 n1 b) => bothN_any a b A0 A1 n0 c0 n1 c1 wx h h' Sa Sb (by have := h.len; omega) (by have := h'.len; omega))
  have HB1 := hide (fun wx (h : NdOn wx A0 n0 a) => both_nil (c := c0) h Sa (by have := h.len; omega))
  have HB2 := hide (fun wx (h : NdOn wx A0 n0 a) => nil_both (c := c0) h Sa (by have := h.len; omega))
  have HSS := hide (fun wx {A n c} (h : NdOn wx A n a) (h' : NdOn wx A0 n0 a) => sameN_yes (c := c) (c' := c0) h h' sa (by have := h.len; omega))
  have HA := hide (fun i nm s h => @both_at a b oa3 ob3 (fun q hq => (Sa q hq).2) i nm s h p)
  have HR := hide (fun j q q' h h' => @rises_at (mergeS a b) (merge_rises oa3 ob3) j q q' h h')
  have HI := hide (fun q h => @in_both a b oa3 ob3 q h)
  have HFa1 := hide (fun wx nm x (e : findS a nm = some x) (h : NdOn wx A0 n0 a) => find_yes (c := c0) h Fa (by have := h.len; omega) e)
  have HFa0 := hide (fun wx nm (e : findS a nm = none) (h : NdOn wx A0 n0 a) => find_no (c := c0) h Fa (by have := h.len; omega) e)
  have HFb1 := hide (fun wx nm x (e : findS b nm = some x) (h : NdOn wx A1 n1 b) => find_yes (c := c1) h Fb (by have := h.len; omega) e)
  have HFb0 := hide (fun wx nm (e : findS b nm = none) (h : NdOn wx A1 n1 b) => find_no (c := c1) h Fb (by have := h.len; omega) e)
  have lm : (mergeS a b).length ≤ 80 := by have := @merge_len a b; omega
  have HFm := hide (fun wx nm x A n c (e : findS (mergeS a b) nm = some x) (h : NdOn wx A n (mergeS a b)) => find_yes (c := c) h Fm (by have := h.len; omega) e)
  have Qa := hide (fun nm x (e : findS a nm = some x) => And.intro ((Sa _ (find_in e)).2) (len_le ((Sa _ (find_in e)).2)))
  have Qb := hide (fun nm x (e : findS b nm = some x) => And.intro ((Sb _ (find_in e)).2) (len_le ((Sb _ (find_in e)).2)))
  have Qm := hide (fun q hq => And.intro (Ms q hq) (len_le (Ms q hq)))
  have L0 : n0 ≤ 40 := by have := h0.len; omega
  have L1 : n1 ≤ 40 := by have := h1.len; omega
  have Lm := hide lm
  clear hT la lb qa qb oa1 oa2 oa3 oa4 ob1 ob2 ob3 ob4 Sa Sb Fa Fb Ms Fm sa hla hlb hca hcb lm
  generalize mergeS a b = M at *
  go_enter Tryz.func4, Tryz.ntmps4
  go_wp2_with (first
    | (go_at_call_of 5 (Value.slice A0 n0 c0)
       refine (HLa.out _ h0).mono ?_
       rintro e wn ⟨rfl, hbx⟩
       try have h0 := NdOn.on h0 hbx
       try have h1 := NdOn.on h1 hbx
       try have h3 := SpOn.on h3 hbx
       try have h4 := SpOn.on h4 hbx
       try have h5 := NdOn.on h5 hbx
       try have h7 := NdOn.on h7 hbx
       try have h8 := NdOn.on h8 hbx
       have hbw := hbw.trans (hbx.mono hbw.size))
    | (go_at_call_of 5 (Value.slice A1 n1 c1)
       refine (HLb.out _ h1).mono ?_
       rintro e wn ⟨rfl, hbx⟩
       try have h0 := NdOn.on h0 hbx
       try have h1 := NdOn.on h1 hbx
       try have h3 := SpOn.on h3 hbx
       try have h4 := SpOn.on h4 hbx
       try have h5 := NdOn.on h5 hbx
       try have h7 := NdOn.on h7 hbx
       try have h8 := NdOn.on h8 hbx
       have hbw := hbw.trans (hbx.mono hbw.size))
    | (go_at_call_of 9 (Value.slice A0 n0 c0)
       refine (HCa.out _ h0).mono ?_
       rintro e wn ⟨rfl, hbx⟩
       try have h0 := NdOn.on h0 hbx
       try have h1 := NdOn.on h1 hbx
       try have h3 := SpOn.on h3 hbx
       try have h4 := SpOn.on h4 hbx
       try have h5 := NdOn.on h5 hbx
       try have h7 := NdOn.on h7 hbx
       try have h8 := NdOn.on h8 hbx
       have hbw := hbw.trans (hbx.mono hbw.size))
    | (go_at_call_of 9 (Value.slice A1 n1 c1)
       refine (HCb.out _ h1).mono ?_
       rintro e wn ⟨rfl, hbx⟩
       try have h0 := NdOn.on h0 hbx
       try have h1 := NdOn.on h1 hbx
       try have h3 := SpOn.on h3 hbx
       try have h4 := SpOn.on h4 hbx
       try have h5 := NdOn.on h5 hbx
       try have h7 := NdOn.on h7 hbx
       try have h8 := NdOn.on h8 hbx
       have hbw := hbw.trans (hbx.mono hbw.size))
    | (go_at_call 14
       refine (HB.out _ h0 h1).mono ?_
       rintro e wn ⟨A5, n5, c5, rfl, h5, hbx⟩
       try have h0 := NdOn.on h0 hbx
       try have h1 := NdOn.on h1 hbx
       try have h3 := SpOn.on h3 hbx
       try have h4 := SpOn.on h4 hbx
       try have h7 := NdOn.on h7 hbx
       try have h8 := NdOn.on h8 hbx
       have hbw := hbw.trans (hbx.mono hbw.size)))
  have L5 : n5 ≤ 80 := by have := h5.len; have := Lm.out; omega
  clear HLa HLb HCa HCb HB
  go_loopw [8] (fun v wr => ∃ i : Nat, i ≤ n5 ∧ v = .int .i64 (i : Int) ∧ Below w.heap.size w wr ∧ NdOn wr A0 n0 a ∧ NdOn wr A1 n1 b ∧ NdOn wr A5 n5 M) (fun v _ => n5 - (RowKit.intOf v).toNat)
  case atStart => exact ⟨0, by omega, rfl, hbw, h0, h1, h5⟩
  case round =>
    clear hbw h0 h1 h5
    obtain ⟨i, hi, rfl, hbw, h0, h1, h5⟩ := hrel
    by_cases hlt : i < n5
    · obtain ⟨ad, q, A6, n6, c6, hA, hbl, hx, _, k1, _⟩ := NdIn.at_ h5 hlt
      subst hA
      obtain ⟨nm, s⟩ := q
      simp only [] at k1
      have Hx := hide hx
      have i1 : (0 : Int) ≤ (i : Int) := by omega
      have i2 : (i : Int) < (n5 : Int) := by omega
      have hm := HA.out i nm s hx
      obtain ⟨Qs, Ql⟩ := Qm.out _ (List.mem_of_getElem? hx)
      have Hs := hide Qs
      simp only [] at Ql
      clear hx HA HB1 HB2 HSS HI HFm HT Qm Qs
      rcases hm with ⟨x, y, e1, e2, e3⟩ | ⟨x, e1, e2, e3⟩ | ⟨y, e1, e2, e3⟩
      · have HF1 := hide (fun wx h => HFa1.out wx nm x e1 h)
        have HF2 := hide (fun wx h => HFb1.out wx nm y e2 h)
        obtain ⟨qx1, qx2⟩ := Qa.out nm x e1
        have HX := hide (fun wx {A n c} (h : SpOn wx A n x) => refHas_on (c := c) p h (by have := h.len; omega) qx1)
        obtain ⟨qy1, qy2⟩ := Qb.out nm y e2
        have HY := hide (fun wx {A n c} (h : SpOn wx A n y) => refHas_on (c := c) p h (by have := h.len; omega) qy1)
        have E3 := hide e3
        clear e1 e2 e3 HFa1 HFa0 HFb1 HFb0 Qa Qb qx1 qx2 qy1 qy2
        generalize has x p = bx at *
        generalize has y p = by_ at *
        go_upto_region 9 with (first
          | (go_at_call_of 7 (Value.slice A0 n0 c0)
             refine (HF1.out _ h0).mono ?_
             rintro e wn ⟨A3, n3, c3, rfl, h3, hbx⟩
             try have h0 := NdOn.on h0 hbx
             try have h1 := NdOn.on h1 hbx
             try have h4 := SpOn.on h4 hbx
             try have h5 := NdOn.on h5 hbx
             try have h7 := NdOn.on h7 hbx
             try have h8 := NdOn.on h8 hbx
             have k1 := (hbx.cell (p := ad.add (i * 2)) (by rw [block_of_add]; omega)).trans k1
             have hbw := hbw.trans (hbx.mono hbw.size))
          | (go_at_call_of 7 (Value.slice A1 n1 c1)
             refine (HF2.out _ h1).mono ?_
             rintro e wn ⟨A4, n4, c4, rfl, h4, hbx⟩
             try have h0 := NdOn.on h0 hbx
             try have h1 := NdOn.on h1 hbx
             try have h3 := SpOn.on h3 hbx
             try have h5 := NdOn.on h5 hbx
             try have h7 := NdOn.on h7 hbx
             try have h8 := NdOn.on h8 hbx
             have hbw := hbw.trans (hbx.mono hbw.size)))
        cases bx
        · have He : Hid (has s p = false) := hide E3.out
          clear E3
          go_upto_region 10 with (first
            | (go_at_call_of 16 (Value.slice A3 n3 c3)
               refine (HX.out _ h3).mono ?_
               rintro e wn ⟨rfl, hbx⟩
               try have h0 := NdOn.on h0 hbx
               try have h1 := NdOn.on h1 hbx
               try have h3 := SpOn.on h3 hbx
               try have h4 := SpOn.on h4 hbx
               try have h5 := NdOn.on h5 hbx
               try have h7 := NdOn.on h7 hbx
               try have h8 := NdOn.on h8 hbx
               have hbw := hbw.trans (hbx.mono hbw.size))
            | (go_at_call_of 16 (Value.slice A4 n4 c4)
               refine (HY.out _ h4).mono ?_
               rintro e wn ⟨rfl, hbx⟩
               try have h0 := NdOn.on h0 hbx
               try have h1 := NdOn.on h1 hbx
               try have h3 := SpOn.on h3 hbx
               try have h4 := SpOn.on h4 hbx
               try have h5 := NdOn.on h5 hbx
               try have h7 := NdOn.on h7 hbx
               try have h8 := NdOn.on h8 hbx
               have hbw := hbw.trans (hbx.mono hbw.size)))
          obtain ⟨ad', q', A6, n6, c6, e', hbl', hx', h6, k1, k2⟩ := NdIn.at_ h5 hlt
          injection e' with e'
          subst e'
          have hq := Hx.out.symm.trans hx'
          injection hq with hq
          subst hq
          simp only [] at k1 k2 h6
          have HQ : Hid (∀ k, Calls Tryz.prog 16 #[.slice A6 n6 c6, .int .i64 p] (wn.drewN k) fun e w' => e = .returned (.bool false) ∧ wn.drewN k = w') := hide (fun k => by have := refHas_set (c := c6) p (wn.drewN k) h6 (by have := h6.1; omega) Hs.out; rwa [He.out] at this)
          clear hx' h6 He Hs
          by_cases g0 : i = 0
          · have h0z : ¬ 0 < i := by omega
            clear g0
            go_quiet (first | (go_at_call 16; exact quiet_left (HQ.out _)))
            go_wp2
            go_roundw
            case rel => first | exact ⟨i + 1, by omega, by go_num, below_drewN hbw _, h0.on (quiet_b _), h1.on (quiet_b _), h5.on (quiet_b _)⟩ | exact ⟨i + 1, by omega, by go_num, hbw, h0, h1, h5⟩
            case measure => simp [RowKit.intOf]; omega
          · obtain ⟨j, hj⟩ : ∃ j, i = j + 1 := ⟨i - 1, by omega⟩
            obtain ⟨ad', q', A7, n7, c7, e', _, hx', _, k3, _⟩ := NdIn.at_ h5 (k := j) (by omega)
            injection e' with e'
            subst e'
            have f2 := HR.out j q' (nm, s) hx' (by rw [← hj]; exact Hx.out)
            obtain ⟨nm', s'⟩ := q'
            simp only [] at k3 f2
            have f3 : Op.bytesLess nm'.toList nm.toList = true := f2
            have f4 : Op.bytesLess nm.toList nm'.toList = false := nlt_asymm f2
            have f5 : (nm.toList == nm'.toList) = false := by rw [eq_names]; exact decide_eq_false (fun e => nlt_ne f2 e.symm)
            have h0z : 0 < i := by omega
            have j1 : (0 : Int) ≤ (j : Int) := by omega
            have j2 : (j : Int) < (n5 : Int) := by omega
            have j3 : IntKind.i64.wrap ((i : Int) - 1) = (j : Int) := by rw [IntKind.wrap_i64]; omega
            clear hj hx' f2 g0
            go_quiet (first | (go_at_call 16; exact quiet_left (HQ.out _)))
            go_wp2
            go_roundw
            case rel => first | exact ⟨i + 1, by omega, by go_num, below_drewN hbw _, h0.on (quiet_b _), h1.on (quiet_b _), h5.on (quiet_b _)⟩ | exact ⟨i + 1, by omega, by go_num, hbw, h0, h1, h5⟩
            case measure => simp [RowKit.intOf]; omega
        · cases by_
          · have He : Hid (has s p = false) := hide E3.out
            clear E3
            go_upto_region 10 with (first
              | (go_at_call_of 16 (Value.slice A3 n3 c3)
                 refine (HX.out _ h3).mono ?_
                 rintro e wn ⟨rfl, hbx⟩
                 try have h0 := NdOn.on h0 hbx
                 try have h1 := NdOn.on h1 hbx
                 try have h3 := SpOn.on h3 hbx
                 try have h4 := SpOn.on h4 hbx
                 try have h5 := NdOn.on h5 hbx
                 try have h7 := NdOn.on h7 hbx
                 try have h8 := NdOn.on h8 hbx
                 have hbw := hbw.trans (hbx.mono hbw.size))
              | (go_at_call_of 16 (Value.slice A4 n4 c4)
                 refine (HY.out _ h4).mono ?_
                 rintro e wn ⟨rfl, hbx⟩
                 try have h0 := NdOn.on h0 hbx
                 try have h1 := NdOn.on h1 hbx
                 try have h3 := SpOn.on h3 hbx
                 try have h4 := SpOn.on h4 hbx
                 try have h5 := NdOn.on h5 hbx
                 try have h7 := NdOn.on h7 hbx
                 try have h8 := NdOn.on h8 hbx
                 have hbw := hbw.trans (hbx.mono hbw.size)))
            obtain ⟨ad', q', A6, n6, c6, e', hbl', hx', h6, k1, k2⟩ := NdIn.at_ h5 hlt
            injection e' with e'
            subst e'
            have hq := Hx.out.symm.trans hx'
            injection hq with hq
            subst hq
            simp only [] at k1 k2 h6
            have HQ : Hid (∀ k, Calls Tryz.prog 16 #[.slice A6 n6 c6, .int .i64 p] (wn.drewN k) fun e w' => e = .returned (.bool false) ∧ wn.drewN k = w') := hide (fun k => by have := refHas_set (c := c6) p (wn.drewN k) h6 (by have := h6.1; omega) Hs.out; rwa [He.out] at this)
            clear hx' h6 He Hs
            by_cases g0 : i = 0
            · have h0z : ¬ 0 < i := by omega
              clear g0
              go_quiet (first | (go_at_call 16; exact quiet_left (HQ.out _)))
              go_wp2
              go_roundw
              case rel => first | exact ⟨i + 1, by omega, by go_num, below_drewN hbw _, h0.on (quiet_b _), h1.on (quiet_b _), h5.on (quiet_b _)⟩ | exact ⟨i + 1, by omega, by go_num, hbw, h0, h1, h5⟩
              case measure => simp [RowKit.intOf]; omega
            · obtain ⟨j, hj⟩ : ∃ j, i = j + 1 := ⟨i - 1, by omega⟩
              obtain ⟨ad', q', A7, n7, c7, e', _, hx', _, k3, _⟩ := NdIn.at_ h5 (k := j) (by omega)
              injection e' with e'
              subst e'
              have f2 := HR.out j q' (nm, s) hx' (by rw [← hj]; exact Hx.out)
              obtain ⟨nm', s'⟩ := q'
              simp only [] at k3 f2
              have f3 : Op.bytesLess nm'.toList nm.toList = true := f2
              have f4 : Op.bytesLess nm.toList nm'.toList = false := nlt_asymm f2
              have f5 : (nm.toList == nm'.toList) = false := by rw [eq_names]; exact decide_eq_false (fun e => nlt_ne f2 e.symm)
              have h0z : 0 < i := by omega
              have j1 : (0 : Int) ≤ (j : Int) := by omega
              have j2 : (j : Int) < (n5 : Int) := by omega
              have j3 : IntKind.i64.wrap ((i : Int) - 1) = (j : Int) := by rw [IntKind.wrap_i64]; omega
              clear hj hx' f2 g0
              go_quiet (first | (go_at_call 16; exact quiet_left (HQ.out _)))
              go_wp2
              go_roundw
              case rel => first | exact ⟨i + 1, by omega, by go_num, below_drewN hbw _, h0.on (quiet_b _), h1.on (quiet_b _), h5.on (quiet_b _)⟩ | exact ⟨i + 1, by omega, by go_num, hbw, h0, h1, h5⟩
              case measure => simp [RowKit.intOf]; omega
          · have He : Hid (has s p = true) := hide E3.out
            clear E3
            go_upto_region 10 with (first
              | (go_at_call_of 16 (Value.slice A3 n3 c3)
                 refine (HX.out _ h3).mono ?_
                 rintro e wn ⟨rfl, hbx⟩
                 try have h0 := NdOn.on h0 hbx
                 try have h1 := NdOn.on h1 hbx
                 try have h3 := SpOn.on h3 hbx
                 try have h4 := SpOn.on h4 hbx
                 try have h5 := NdOn.on h5 hbx
                 try have h7 := NdOn.on h7 hbx
                 try have h8 := NdOn.on h8 hbx
                 have hbw := hbw.trans (hbx.mono hbw.size))
              | (go_at_call_of 16 (Value.slice A4 n4 c4)
                 refine (HY.out _ h4).mono ?_
                 rintro e wn ⟨rfl, hbx⟩
                 try have h0 := NdOn.on h0 hbx
                 try have h1 := NdOn.on h1 hbx
                 try have h3 := SpOn.on h3 hbx
                 try have h4 := SpOn.on h4 hbx
                 try have h5 := NdOn.on h5 hbx
                 try have h7 := NdOn.on h7 hbx
                 try have h8 := NdOn.on h8 hbx
                 have hbw := hbw.trans (hbx.mono hbw.size)))
            obtain ⟨ad', q', A6, n6, c6, e', hbl', hx', h6, k1, k2⟩ := NdIn.at_ h5 hlt
            injection e' with e'
            subst e'
            have hq := Hx.out.symm.trans hx'
            injection hq with hq
            subst hq
            simp only [] at k1 k2 h6
            have HQ : Hid (∀ k, Calls Tryz.prog 16 #[.slice A6 n6 c6, .int .i64 p] (wn.drewN k) fun e w' => e = .returned (.bool true) ∧ wn.drewN k = w') := hide (fun k => by have := refHas_set (c := c6) p (wn.drewN k) h6 (by have := h6.1; omega) Hs.out; rwa [He.out] at this)
            clear hx' h6 He Hs
            by_cases g0 : i = 0
            · have h0z : ¬ 0 < i := by omega
              clear g0
              go_quiet (first | (go_at_call 16; exact quiet_left (HQ.out _)))
              go_wp2
              go_roundw
              case rel => first | exact ⟨i + 1, by omega, by go_num, below_drewN hbw _, h0.on (quiet_b _), h1.on (quiet_b _), h5.on (quiet_b _)⟩ | exact ⟨i + 1, by omega, by go_num, hbw, h0, h1, h5⟩
              case measure => simp [RowKit.intOf]; omega
            · obtain ⟨j, hj⟩ : ∃ j, i = j + 1 := ⟨i - 1, by omega⟩
              obtain ⟨ad', q', A7, n7, c7, e', _, hx', _, k3, _⟩ := NdIn.at_ h5 (k := j) (by omega)
              injection e' with e'
              subst e'
              have f2 := HR.out j q' (nm, s) hx' (by rw [← hj]; exact Hx.out)
              obtain ⟨nm', s'⟩ := q'
              simp only [] at k3 f2
              have f3 : Op.bytesLess nm'.toList nm.toList = true := f2
              have f4 : Op.bytesLess nm.toList nm'.toList = false := nlt_asymm f2
              have f5 : (nm.toList == nm'.toList) = false := by rw [eq_names]; exact decide_eq_false (fun e => nlt_ne f2 e.symm)
              have h0z : 0 < i := by omega
              have j1 : (0 : Int) ≤ (j : Int) := by omega
              have j2 : (j : Int) < (n5 : Int) := by omega
              have j3 : IntKind.i64.wrap ((i : Int) - 1) = (j : Int) := by rw [IntKind.wrap_i64]; omega
              clear hj hx' f2 g0
              go_quiet (first | (go_at_call 16; exact quiet_left (HQ.out _)))
              go_wp2
              go_roundw
              case rel => first | exact ⟨i + 1, by omega, by go_num, below_drewN hbw _, h0.on (quiet_b _), h1.on (quiet_b _), h5.on (quiet_b _)⟩ | exact ⟨i + 1, by omega, by go_num, hbw, h0, h1, h5⟩
              case measure => simp [RowKit.intOf]; omega
      · have HF1 := hide (fun wx h => HFa1.out wx nm x e1 h)
        have HF2 := hide (fun wx h => HFb0.out wx nm e2 h)
        obtain ⟨qx1, qx2⟩ := Qa.out nm x e1
        have HX := hide (fun wx {A n c} (h : SpOn wx A n x) => refHas_on (c := c) p h (by have := h.len; omega) qx1)
        have E3 := hide e3
        clear e1 e2 e3 HFa1 HFa0 HFb1 HFb0 Qa Qb qx1 qx2 
        generalize has x p = bx at *
        go_upto_region 9 with (first
          | (go_at_call_of 7 (Value.slice A0 n0 c0)
             refine (HF1.out _ h0).mono ?_
             rintro e wn ⟨A3, n3, c3, rfl, h3, hbx⟩
             try have h0 := NdOn.on h0 hbx
             try have h1 := NdOn.on h1 hbx
             try have h4 := SpOn.on h4 hbx
             try have h5 := NdOn.on h5 hbx
             try have h7 := NdOn.on h7 hbx
             try have h8 := NdOn.on h8 hbx
             have k1 := (hbx.cell (p := ad.add (i * 2)) (by rw [block_of_add]; omega)).trans k1
             have hbw := hbw.trans (hbx.mono hbw.size))
          | (go_at_call_of 7 (Value.slice A1 n1 c1)
             refine (HF2.out _ h1).mono ?_
             rintro e wn ⟨A4, n4, c4, rfl, h4, hbx⟩
             try have h0 := NdOn.on h0 hbx
             try have h1 := NdOn.on h1 hbx
             try have h3 := SpOn.on h3 hbx
             try have h5 := NdOn.on h5 hbx
             try have h7 := NdOn.on h7 hbx
             try have h8 := NdOn.on h8 hbx
             have hbw := hbw.trans (hbx.mono hbw.size)))
        cases bx
        · have He : Hid (has s p = false) := hide E3.out
          clear E3
          go_upto_region 10 with (first
            | (go_at_call_of 16 (Value.slice A3 n3 c3)
               refine (HX.out _ h3).mono ?_
               rintro e wn ⟨rfl, hbx⟩
               try have h0 := NdOn.on h0 hbx
               try have h1 := NdOn.on h1 hbx
               try have h3 := SpOn.on h3 hbx
               try have h4 := SpOn.on h4 hbx
               try have h5 := NdOn.on h5 hbx
               try have h7 := NdOn.on h7 hbx
               try have h8 := NdOn.on h8 hbx
               have hbw := hbw.trans (hbx.mono hbw.size)))
          obtain ⟨ad', q', A6, n6, c6, e', hbl', hx', h6, k1, k2⟩ := NdIn.at_ h5 hlt
          injection e' with e'
          subst e'
          have hq := Hx.out.symm.trans hx'
          injection hq with hq
          subst hq
          simp only [] at k1 k2 h6
          have HQ : Hid (∀ k, Calls Tryz.prog 16 #[.slice A6 n6 c6, .int .i64 p] (wn.drewN k) fun e w' => e = .returned (.bool false) ∧ wn.drewN k = w') := hide (fun k => by have := refHas_set (c := c6) p (wn.drewN k) h6 (by have := h6.1; omega) Hs.out; rwa [He.out] at this)
          clear hx' h6 He Hs
          by_cases g0 : i = 0
          · have h0z : ¬ 0 < i := by omega
            clear g0
            go_quiet (first | (go_at_call 16; exact quiet_left (HQ.out _)))
            go_wp2
            go_roundw
            case rel => first | exact ⟨i + 1, by omega, by go_num, below_drewN hbw _, h0.on (quiet_b _), h1.on (quiet_b _), h5.on (quiet_b _)⟩ | exact ⟨i + 1, by omega, by go_num, hbw, h0, h1, h5⟩
            case measure => simp [RowKit.intOf]; omega
          · obtain ⟨j, hj⟩ : ∃ j, i = j + 1 := ⟨i - 1, by omega⟩
            obtain ⟨ad', q', A7, n7, c7, e', _, hx', _, k3, _⟩ := NdIn.at_ h5 (k := j) (by omega)
            injection e' with e'
            subst e'
            have f2 := HR.out j q' (nm, s) hx' (by rw [← hj]; exact Hx.out)
            obtain ⟨nm', s'⟩ := q'
            simp only [] at k3 f2
            have f3 : Op.bytesLess nm'.toList nm.toList = true := f2
            have f4 : Op.bytesLess nm.toList nm'.toList = false := nlt_asymm f2
            have f5 : (nm.toList == nm'.toList) = false := by rw [eq_names]; exact decide_eq_false (fun e => nlt_ne f2 e.symm)
            have h0z : 0 < i := by omega
            have j1 : (0 : Int) ≤ (j : Int) := by omega
            have j2 : (j : Int) < (n5 : Int) := by omega
            have j3 : IntKind.i64.wrap ((i : Int) - 1) = (j : Int) := by rw [IntKind.wrap_i64]; omega
            clear hj hx' f2 g0
            go_quiet (first | (go_at_call 16; exact quiet_left (HQ.out _)))
            go_wp2
            go_roundw
            case rel => first | exact ⟨i + 1, by omega, by go_num, below_drewN hbw _, h0.on (quiet_b _), h1.on (quiet_b _), h5.on (quiet_b _)⟩ | exact ⟨i + 1, by omega, by go_num, hbw, h0, h1, h5⟩
            case measure => simp [RowKit.intOf]; omega
        · have He : Hid (has s p = true) := hide E3.out
          clear E3
          go_upto_region 10 with (first
            | (go_at_call_of 16 (Value.slice A3 n3 c3)
               refine (HX.out _ h3).mono ?_
               rintro e wn ⟨rfl, hbx⟩
               try have h0 := NdOn.on h0 hbx
               try have h1 := NdOn.on h1 hbx
               try have h3 := SpOn.on h3 hbx
               try have h4 := SpOn.on h4 hbx
               try have h5 := NdOn.on h5 hbx
               try have h7 := NdOn.on h7 hbx
               try have h8 := NdOn.on h8 hbx
               have hbw := hbw.trans (hbx.mono hbw.size)))
          obtain ⟨ad', q', A6, n6, c6, e', hbl', hx', h6, k1, k2⟩ := NdIn.at_ h5 hlt
          injection e' with e'
          subst e'
          have hq := Hx.out.symm.trans hx'
          injection hq with hq
          subst hq
          simp only [] at k1 k2 h6
          have HQ : Hid (∀ k, Calls Tryz.prog 16 #[.slice A6 n6 c6, .int .i64 p] (wn.drewN k) fun e w' => e = .returned (.bool true) ∧ wn.drewN k = w') := hide (fun k => by have := refHas_set (c := c6) p (wn.drewN k) h6 (by have := h6.1; omega) Hs.out; rwa [He.out] at this)
          clear hx' h6 He Hs
          by_cases g0 : i = 0
          · have h0z : ¬ 0 < i := by omega
            clear g0
            go_quiet (first | (go_at_call 16; exact quiet_left (HQ.out _)))
            go_wp2
            go_roundw
            case rel => first | exact ⟨i + 1, by omega, by go_num, below_drewN hbw _, h0.on (quiet_b _), h1.on (quiet_b _), h5.on (quiet_b _)⟩ | exact ⟨i + 1, by omega, by go_num, hbw, h0, h1, h5⟩
            case measure => simp [RowKit.intOf]; omega
          · obtain ⟨j, hj⟩ : ∃ j, i = j + 1 := ⟨i - 1, by omega⟩
            obtain ⟨ad', q', A7, n7, c7, e', _, hx', _, k3, _⟩ := NdIn.at_ h5 (k := j) (by omega)
            injection e' with e'
            subst e'
            have f2 := HR.out j q' (nm, s) hx' (by rw [← hj]; exact Hx.out)
            obtain ⟨nm', s'⟩ := q'
            simp only [] at k3 f2
            have f3 : Op.bytesLess nm'.toList nm.toList = true := f2
            have f4 : Op.bytesLess nm.toList nm'.toList = false := nlt_asymm f2
            have f5 : (nm.toList == nm'.toList) = false := by rw [eq_names]; exact decide_eq_false (fun e => nlt_ne f2 e.symm)
            have h0z : 0 < i := by omega
            have j1 : (0 : Int) ≤ (j : Int) := by omega
            have j2 : (j : Int) < (n5 : Int) := by omega
            have j3 : IntKind.i64.wrap ((i : Int) - 1) = (j : Int) := by rw [IntKind.wrap_i64]; omega
            clear hj hx' f2 g0
            go_quiet (first | (go_at_call 16; exact quiet_left (HQ.out _)))
            go_wp2
            go_roundw
            case rel => first | exact ⟨i + 1, by omega, by go_num, below_drewN hbw _, h0.on (quiet_b _), h1.on (quiet_b _), h5.on (quiet_b _)⟩ | exact ⟨i + 1, by omega, by go_num, hbw, h0, h1, h5⟩
            case measure => simp [RowKit.intOf]; omega
      · have HF1 := hide (fun wx h => HFa0.out wx nm e1 h)
        have HF2 := hide (fun wx h => HFb1.out wx nm y e2 h)
        obtain ⟨qy1, qy2⟩ := Qb.out nm y e2
        have HY := hide (fun wx {A n c} (h : SpOn wx A n y) => refHas_on (c := c) p h (by have := h.len; omega) qy1)
        have E3 := hide e3
        clear e1 e2 e3 HFa1 HFa0 HFb1 HFb0 Qa Qb qy1 qy2
        generalize has y p = by_ at *
        go_upto_region 9 with (first
          | (go_at_call_of 7 (Value.slice A0 n0 c0)
             refine (HF1.out _ h0).mono ?_
             rintro e wn ⟨A3, n3, c3, rfl, h3, hbx⟩
             try have h0 := NdOn.on h0 hbx
             try have h1 := NdOn.on h1 hbx
             try have h4 := SpOn.on h4 hbx
             try have h5 := NdOn.on h5 hbx
             try have h7 := NdOn.on h7 hbx
             try have h8 := NdOn.on h8 hbx
             have k1 := (hbx.cell (p := ad.add (i * 2)) (by rw [block_of_add]; omega)).trans k1
             have hbw := hbw.trans (hbx.mono hbw.size))
          | (go_at_call_of 7 (Value.slice A1 n1 c1)
             refine (HF2.out _ h1).mono ?_
             rintro e wn ⟨A4, n4, c4, rfl, h4, hbx⟩
             try have h0 := NdOn.on h0 hbx
             try have h1 := NdOn.on h1 hbx
             try have h3 := SpOn.on h3 hbx
             try have h5 := NdOn.on h5 hbx
             try have h7 := NdOn.on h7 hbx
             try have h8 := NdOn.on h8 hbx
             have hbw := hbw.trans (hbx.mono hbw.size)))
        cases by_
        · have He : Hid (has s p = false) := hide E3.out
          clear E3
          go_upto_region 10 with (first
            | (go_at_call_of 16 (Value.slice A4 n4 c4)
               refine (HY.out _ h4).mono ?_
               rintro e wn ⟨rfl, hbx⟩
               try have h0 := NdOn.on h0 hbx
               try have h1 := NdOn.on h1 hbx
               try have h3 := SpOn.on h3 hbx
               try have h4 := SpOn.on h4 hbx
               try have h5 := NdOn.on h5 hbx
               try have h7 := NdOn.on h7 hbx
               try have h8 := NdOn.on h8 hbx
               have hbw := hbw.trans (hbx.mono hbw.size)))
          obtain ⟨ad', q', A6, n6, c6, e', hbl', hx', h6, k1, k2⟩ := NdIn.at_ h5 hlt
          injection e' with e'
          subst e'
          have hq := Hx.out.symm.trans hx'
          injection hq with hq
          subst hq
          simp only [] at k1 k2 h6
          have HQ : Hid (∀ k, Calls Tryz.prog 16 #[.slice A6 n6 c6, .int .i64 p] (wn.drewN k) fun e w' => e = .returned (.bool false) ∧ wn.drewN k = w') := hide (fun k => by have := refHas_set (c := c6) p (wn.drewN k) h6 (by have := h6.1; omega) Hs.out; rwa [He.out] at this)
          clear hx' h6 He Hs
          by_cases g0 : i = 0
          · have h0z : ¬ 0 < i := by omega
            clear g0
            go_quiet (first | (go_at_call 16; exact quiet_left (HQ.out _)))
            go_wp2
            go_roundw
            case rel => first | exact ⟨i + 1, by omega, by go_num, below_drewN hbw _, h0.on (quiet_b _), h1.on (quiet_b _), h5.on (quiet_b _)⟩ | exact ⟨i + 1, by omega, by go_num, hbw, h0, h1, h5⟩
            case measure => simp [RowKit.intOf]; omega
          · obtain ⟨j, hj⟩ : ∃ j, i = j + 1 := ⟨i - 1, by omega⟩
            obtain ⟨ad', q', A7, n7, c7, e', _, hx', _, k3, _⟩ := NdIn.at_ h5 (k := j) (by omega)
            injection e' with e'
            subst e'
            have f2 := HR.out j q' (nm, s) hx' (by rw [← hj]; exact Hx.out)
            obtain ⟨nm', s'⟩ := q'
            simp only [] at k3 f2
            have f3 : Op.bytesLess nm'.toList nm.toList = true := f2
            have f4 : Op.bytesLess nm.toList nm'.toList = false := nlt_asymm f2
            have f5 : (nm.toList == nm'.toList) = false := by rw [eq_names]; exact decide_eq_false (fun e => nlt_ne f2 e.symm)
            have h0z : 0 < i := by omega
            have j1 : (0 : Int) ≤ (j : Int) := by omega
            have j2 : (j : Int) < (n5 : Int) := by omega
            have j3 : IntKind.i64.wrap ((i : Int) - 1) = (j : Int) := by rw [IntKind.wrap_i64]; omega
            clear hj hx' f2 g0
            go_quiet (first | (go_at_call 16; exact quiet_left (HQ.out _)))
            go_wp2
            go_roundw
            case rel => first | exact ⟨i + 1, by omega, by go_num, below_drewN hbw _, h0.on (quiet_b _), h1.on (quiet_b _), h5.on (quiet_b _)⟩ | exact ⟨i + 1, by omega, by go_num, hbw, h0, h1, h5⟩
            case measure => simp [RowKit.intOf]; omega
        · have He : Hid (has s p = true) := hide E3.out
          clear E3
          go_upto_region 10 with (first
            | (go_at_call_of 16 (Value.slice A4 n4 c4)
               refine (HY.out _ h4).mono ?_
               rintro e wn ⟨rfl, hbx⟩
               try have h0 := NdOn.on h0 hbx
               try have h1 := NdOn.on h1 hbx
               try have h3 := SpOn.on h3 hbx
               try have h4 := SpOn.on h4 hbx
               try have h5 := NdOn.on h5 hbx
               try have h7 := NdOn.on h7 hbx
               try have h8 := NdOn.on h8 hbx
               have hbw := hbw.trans (hbx.mono hbw.size)))
          obtain ⟨ad', q', A6, n6, c6, e', hbl', hx', h6, k1, k2⟩ := NdIn.at_ h5 hlt
          injection e' with e'
          subst e'
          have hq := Hx.out.symm.trans hx'
          injection hq with hq
          subst hq
          simp only [] at k1 k2 h6
          have HQ : Hid (∀ k, Calls Tryz.prog 16 #[.slice A6 n6 c6, .int .i64 p] (wn.drewN k) fun e w' => e = .returned (.bool true) ∧ wn.drewN k = w') := hide (fun k => by have := refHas_set (c := c6) p (wn.drewN k) h6 (by have := h6.1; omega) Hs.out; rwa [He.out] at this)
          clear hx' h6 He Hs
          by_cases g0 : i = 0
          · have h0z : ¬ 0 < i := by omega
            clear g0
            go_quiet (first | (go_at_call 16; exact quiet_left (HQ.out _)))
            go_wp2
            go_roundw
            case rel => first | exact ⟨i + 1, by omega, by go_num, below_drewN hbw _, h0.on (quiet_b _), h1.on (quiet_b _), h5.on (quiet_b _)⟩ | exact ⟨i + 1, by omega, by go_num, hbw, h0, h1, h5⟩
            case measure => simp [RowKit.intOf]; omega
          · obtain ⟨j, hj⟩ : ∃ j, i = j + 1 := ⟨i - 1, by omega⟩
            obtain ⟨ad', q', A7, n7, c7, e', _, hx', _, k3, _⟩ := NdIn.at_ h5 (k := j) (by omega)
            injection e' with e'
            subst e'
            have f2 := HR.out j q' (nm, s) hx' (by rw [← hj]; exact Hx.out)
            obtain ⟨nm', s'⟩ := q'
            simp only [] at k3 f2
            have f3 : Op.bytesLess nm'.toList nm.toList = true := f2
            have f4 : Op.bytesLess nm.toList nm'.toList = false := nlt_asymm f2
            have f5 : (nm.toList == nm'.toList) = false := by rw [eq_names]; exact decide_eq_false (fun e => nlt_ne f2 e.symm)
            have h0z : 0 < i := by omega
            have j1 : (0 : Int) ≤ (j : Int) := by omega
            have j2 : (j : Int) < (n5 : Int) := by omega
            have j3 : IntKind.i64.wrap ((i : Int) - 1) = (j : Int) := by rw [IntKind.wrap_i64]; omega
            clear hj hx' f2 g0
            go_quiet (first | (go_at_call 16; exact quiet_left (HQ.out _)))
            go_wp2
            go_roundw
            case rel => first | exact ⟨i + 1, by omega, by go_num, below_drewN hbw _, h0.on (quiet_b _), h1.on (quiet_b _), h5.on (quiet_b _)⟩ | exact ⟨i + 1, by omega, by go_num, hbw, h0, h1, h5⟩
            case measure => simp [RowKit.intOf]; omega
    · have hi2 : i = n5 := by omega
      clear HA HR HFa1 HFa0 HFb1 HFb0 Qa Qb Qm
      go_wp2
      go_loopw [14] (fun v wr => ∃ i : Nat, i ≤ n0 ∧ v = .int .i64 (i : Int) ∧ Below w.heap.size w wr ∧ NdOn wr A0 n0 a ∧ NdOn wr A1 n1 b ∧ NdOn wr A5 n5 M) (fun v _ => n0 - (RowKit.intOf v).toNat)
      case atStart => exact ⟨0, by omega, rfl, hbw, h0, h1, h5⟩
      case round =>
        clear hbw h0 h1 h5 hi2 hlt hi
        obtain ⟨i, hi, rfl, hbw, h0, h1, h5⟩ := hrel
        by_cases hlt : i < n0
        · obtain ⟨ad, q, A6, n6, c6, hA, hbl, hx, _, k1, _⟩ := NdIn.at_ h0 hlt
          subst hA
          obtain ⟨s, hs⟩ := HI.out q (.inl (List.mem_of_getElem? hx))
          have HF := hide (fun wx h => HFm.out wx q.1 s A5 n5 c5 hs h)
          obtain ⟨nm, s'⟩ := q
          simp only [] at k1 HF
          have i1 : (0 : Int) ≤ (i : Int) := by omega
          have i2 : (i : Int) < (n0 : Int) := by omega
          clear hx hs HI HFm HB1 HB2 HSS HT
          go_wp2_with (first
                | (go_at_call 7
                   refine (HF.out _ h5).mono ?_
                   rintro e wn ⟨A3, n3, c3, rfl, h3, hbx⟩
                   try have h0 := NdOn.on h0 hbx
                   try have h1 := NdOn.on h1 hbx
                   try have h4 := SpOn.on h4 hbx
                   try have h5 := NdOn.on h5 hbx
                   try have h7 := NdOn.on h7 hbx
                   try have h8 := NdOn.on h8 hbx
                   have hbw := hbw.trans (hbx.mono hbw.size)))
          go_roundw
          case rel => exact ⟨i + 1, by omega, by go_num, hbw, h0, h1, h5⟩
          case measure => simp [RowKit.intOf]; omega
        · have hi2 : i = n0 := by omega
          go_wp2
          go_loopw [17] (fun v wr => ∃ i : Nat, i ≤ n1 ∧ v = .int .i64 (i : Int) ∧ Below w.heap.size w wr ∧ NdOn wr A0 n0 a ∧ NdOn wr A1 n1 b ∧ NdOn wr A5 n5 M) (fun v _ => n1 - (RowKit.intOf v).toNat)
          case atStart => exact ⟨0, by omega, rfl, hbw, h0, h1, h5⟩
          case round =>
            clear hbw h0 h1 h5 hi2 hlt hi
            obtain ⟨i, hi, rfl, hbw, h0, h1, h5⟩ := hrel
            by_cases hlt : i < n1
            · obtain ⟨ad, q, A6, n6, c6, hA, hbl, hx, _, k1, _⟩ := NdIn.at_ h1 hlt
              subst hA
              obtain ⟨s, hs⟩ := HI.out q (.inr (List.mem_of_getElem? hx))
              have HF := hide (fun wx h => HFm.out wx q.1 s A5 n5 c5 hs h)
              obtain ⟨nm, s'⟩ := q
              simp only [] at k1 HF
              have i1 : (0 : Int) ≤ (i : Int) := by omega
              have i2 : (i : Int) < (n1 : Int) := by omega
              clear hx hs HI HFm HB1 HB2 HSS HT
              go_wp2_with (first
                | (go_at_call 7
                   refine (HF.out _ h5).mono ?_
                   rintro e wn ⟨A3, n3, c3, rfl, h3, hbx⟩
                   try have h0 := NdOn.on h0 hbx
                   try have h1 := NdOn.on h1 hbx
                   try have h4 := SpOn.on h4 hbx
                   try have h5 := NdOn.on h5 hbx
                   try have h7 := NdOn.on h7 hbx
                   try have h8 := NdOn.on h8 hbx
                   have hbw := hbw.trans (hbx.mono hbw.size)))
              go_roundw
              case rel => exact ⟨i + 1, by omega, by go_num, hbw, h0, h1, h5⟩
              case measure => simp [RowKit.intOf]; omega
            · have hi2 : i = n1 := by omega
              clear HI HFm
              go_wp2_with (first
                | (go_at_call_of 11 (Value.slice A8 n8 c8)
                   refine (HSS.out _ h8 h0).mono ?_
                   rintro e wn ⟨rfl, hbx⟩
                   try have h0 := NdOn.on h0 hbx
                   try have h1 := NdOn.on h1 hbx
                   try have h3 := SpOn.on h3 hbx
                   try have h4 := SpOn.on h4 hbx
                   try have h5 := NdOn.on h5 hbx
                   try have h7 := NdOn.on h7 hbx
                   try have h8 := NdOn.on h8 hbx
                   have hbw := hbw.trans (hbx.mono hbw.size))
                | (go_at_call 11
                   refine (HSS.out _ h7 h0).mono ?_
                   rintro e wn ⟨rfl, hbx⟩
                   try have h0 := NdOn.on h0 hbx
                   try have h1 := NdOn.on h1 hbx
                   try have h3 := SpOn.on h3 hbx
                   try have h4 := SpOn.on h4 hbx
                   try have h5 := NdOn.on h5 hbx
                   try have h7 := NdOn.on h7 hbx
                   try have h8 := NdOn.on h8 hbx
                   have hbw := hbw.trans (hbx.mono hbw.size))
                | (go_at_call 14
                   have g7 := h7
                   refine (HB2.out _ h0).mono ?_
                   rintro e wn ⟨A8, n8, c8, rfl, h8, hbx⟩
                   try have h0 := NdOn.on h0 hbx
                   try have h1 := NdOn.on h1 hbx
                   try have h3 := SpOn.on h3 hbx
                   try have h4 := SpOn.on h4 hbx
                   try have h5 := NdOn.on h5 hbx
                   try have h7 := NdOn.on h7 hbx
                   have hbw := hbw.trans (hbx.mono hbw.size))
                | (go_at_call 14
                   refine (HB1.out _ h0).mono ?_
                   rintro e wn ⟨A7, n7, c7, rfl, h7, hbx⟩
                   try have h0 := NdOn.on h0 hbx
                   try have h1 := NdOn.on h1 hbx
                   try have h3 := SpOn.on h3 hbx
                   try have h4 := SpOn.on h4 hbx
                   try have h5 := NdOn.on h5 hbx
                   try have h8 := NdOn.on h8 hbx
                   have hbw := hbw.trans (hbx.mono hbw.size))
                | (go_at_call 6
                   refine (HT.out _ hbw).mono ?_
                   rintro e wn ⟨rfl, hbx⟩
                   have hbw := hbw.trans (hbx.mono hbw.size)))
              go_ret
              exact ⟨rfl, hbw⟩
theorem bothW_walk (a b : List Nd) (p : Int) (A0 : Option Addr) (n0 c0 : Nat) (A1 : Option Addr) (n1 c1 : Nat) (w : World) (hn0 : n0 ≤ 9223372036854775807) (hn1 : n1 ≤ 9223372036854775807)
    (h0 : NdOn w A0 n0 a) (h1 : NdOn w A1 n1 b) (hT : Tabs w) :
    Calls Tryz.prog 4 #[.slice A0 n0 c0, .slice A1 n1 c1, .int .i64 p] w fun e w' => e = .returned (.bool true) ∧ Below w.heap.size w w' := by
  cases hla : large a with
  | true => exact bothW_la a b p A0 n0 c0 A1 n1 c1 w hn0 hn1 h0 h1 hT hla
  | false =>
    cases hlb : large b with
    | true => exact bothW_lb a b p A0 n0 c0 A1 n1 c1 w hn0 hn1 h0 h1 hT hla hlb
    | false =>
      cases hca : okS a with
      | false => exact bothW_ca a b p A0 n0 c0 A1 n1 c1 w hn0 hn1 h0 h1 hT hla hlb hca
      | true =>
        cases hcb : okS b with
        | false => exact bothW_cb a b p A0 n0 c0 A1 n1 c1 w hn0 hn1 h0 h1 hT hla hlb hca hcb
        | true => exact bothW_ok a b p A0 n0 c0 A1 n1 c1 w hn0 hn1 h0 h1 hT hla hlb hca hcb
end Go.Proofs.YtmcpdcfeappokaaGreatDoor.Need

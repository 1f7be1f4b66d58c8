/-
  Some texts of this claim, one behind the other: NeedAwake, NeedListsW. What each proves, and its condition, stands at its head.
-/
import Derived.Test.YtmcpdcfeappokaaGreatDoorZ34
import Derived.Test.YtmcpdcfeappokaaGreatDoorZ37
import Derived.Test.YtmcpdcfeappokaaGreatDoorZ38
import Derived.Test.YtmcpdcfeappokaaGreatDoorZ20
import Derived.Test.YtmcpdcfeappokaaGreatDoorZ21
import Derived.Test.YtmcpdcfeappokaaGreatDoorZ22
import Derived.Test.YtmcpdcfeappokaaGreatDoorZ16
import Derived.Test.YtmcpdcfeappokaaGreatDoorZ19
/-
  The chapter's examples (awake): they hold. Condition: the tables hold what the texts lay in them.
-/
namespace Go.Proofs.YtmcpdcfeappokaaGreatDoor.Need
open Go Go.RowKit Go.Lib Go.Proofs.YtmcpdcfeappokaaGreatDoor.Span
open Go.Proofs.YtmcpdcfeappokaaGreatDoor.Ver (Tabs txt)
open Go.Proofs.YtmcpdcfeappokaaGreatDoor.Rule (told toldSet toldAt toldErr showL cmpI mean_cmp readT pieceT meetT cutL told_of setOf_self ivOf cmp_of txt_small joinL partL anyL tz tz_in)
open Go.Proofs.YtmcpdcfeappokaaGreatDoor.Label (runes fitL runes_step runes_end rn wd)
set_option linter.unusedVariables false
def tx1 : List UInt8 := [98, 32, 94, 49, 46, 48, 46, 48, 59, 32, 99]
def tx2 : List UInt8 := [99, 59, 32, 98]
def nb : Nd := (str [98], [(1000000, 2000000)])
def nc : Nd := (str [99], [(0, 1000000000)])
theorem fit_b : fitL (runes (str [98]) 0) = true := by
  rw [runes_step _ _ (by decide), runes_end _ _ (by decide)]
  decide
theorem fit_c : fitL (runes (str [99]) 0) = true := by
  rw [runes_step _ _ (by decide), runes_end _ _ (by decide)]
  decide
theorem nlt_of (l m : List UInt8) : nlt (str l) (str m) = Op.bytesLess l m := by unfold nlt; rw [str_toList, str_toList]
theorem empty_str : ByteArray.empty = str [] := rfl
theorem t100 : txt 1000000 = [49, 46, 48, 46, 48] := txt_small (a := 1) (b := 0) (c := 0) rfl rfl rfl (by omega) (by omega) (by omega)
theorem t200 : txt 2000000 = [50, 46, 48, 46, 48] := txt_small (a := 2) (b := 0) (c := 0) rfl rfl rfl (by omega) (by omega) (by omega)
theorem cmp100 : cmpI [94, 49, 46, 48, 46, 48] = some (1000000, 2000000) := by
  have := (cmp_of (g := [94]) (by simp) (p := 1000000) (by omega)).1
  rw [t100] at this
  rw [show ([94, 49, 46, 48, 46, 48] : List UInt8) = [94] ++ [49, 46, 48, 46, 48] from rfl, this]
  simp [ivOf, Ver.afterN, Ver.unitN]
theorem told100 : told [32, 94, 49, 46, 48, 46, 48] = Rule.Told.ok [(1000000, 2000000)] := by
  have hw : (cutL [32, 94, 49, 46, 48, 46, 48]).map (fun q => q.1.map Prod.fst) = [[[94, 49, 46, 48, 46, 48]]] := by decide
  have h : readT [] ((cutL [32, 94, 49, 46, 48, 46, 48]).map fun q => q.1.map Prod.fst) = some [(1000000, 2000000)] := by
    rw [hw]
    simp only [readT, pieceT, meetT]
    rw [mean_cmp _ (by decide) (by decide), cmp100]
    decide
  rw [told_of (by decide) h, setOf_self (by decide), if_neg (by decide)]
theorem read_b : readP [98, 32, 94, 49, 46, 48, 46, 48] ByteArray.empty = .ok nb := by
  have h1 : nameL [98, 32, 94, 49, 46, 48, 46, 48] = [98] := by decide
  have h2 : (textOf [98, 32, 94, 49, 46, 48, 46, 48]).drop 1 = [32, 94, 49, 46, 48, 46, 48] := by decide
  have h3 : readInL [32, 94, 49, 46, 48, 46, 48] = Rule.Told.ok [(1000000, 2000000)] := by unfold readInL; rw [if_neg (by decide), told100]
  unfold readP
  rw [h1, fit_b, empty_str, nlt_of]
  rw [show ([98] : List UInt8).length = 1 from rfl, h2, h3]
  rfl
theorem read_c1 (a : ByteArray) (h : nlt a (str [99]) = true) : readP [32, 99] a = .ok nc := by
  have h1 : nameL [32, 99] = [99] := by decide
  have h2 : (textOf [32, 99]).drop 1 = [] := by decide
  have h3 : readInL [] = Rule.Told.ok [(0, 1000000000)] := by unfold readInL; rw [if_pos (by decide)]
  unfold readP
  rw [h1, fit_c, h, show ([99] : List UInt8).length = 1 from rfl, h2, h3]
  rfl
theorem read_c2 (a : ByteArray) (h : nlt a (str [99]) = true) : readP [99] a = .ok nc := by
  have h1 : nameL [99] = [99] := by decide
  have h2 : (textOf [99]).drop 1 = [] := by decide
  have h3 : readInL [] = Rule.Told.ok [(0, 1000000000)] := by unfold readInL; rw [if_pos (by decide)]
  unfold readP
  rw [h1, fit_c, h, show ([99] : List UInt8).length = 1 from rfl, h2, h3]
  rfl
theorem read_bb : readP [32, 98] (str [99]) = .bad 1 3 := by
  have h1 : nameL [32, 98] = [98] := by decide
  unfold readP
  rw [h1, fit_b, nlt_of]
  rw [if_pos (by decide)]
  rfl
theorem pcs1 : pcsOf 0 tx1 = [(0, [98, 32, 94, 49, 46, 48, 46, 48]), (9, [32, 99])] := by
  rw [pcs_yes (by decide), pcs_no (by decide)]
  rfl
theorem pcs2 : pcsOf 0 tx2 = [(0, [99]), (2, [32, 98])] := by
  rw [pcs_yes (by decide), pcs_no (by decide)]
  rfl
theorem out1 : outOf (pcsOf 0 tx1) [] = .ok [nb, nc] := by
  rw [pcs1]
  have e0 : lastN [] = ByteArray.empty := rfl
  have e1 : lastN [nb] = str [98] := rfl
  simp only [outOf, e0, read_b, List.nil_append, e1, read_c1 (str [98]) (by rw [nlt_of]; decide)]
  rfl
theorem out2 : outOf (pcsOf 0 tx2) [] = .bad 3 3 := by
  rw [pcs2]
  have e0 : lastN [] = ByteArray.empty := rfl
  have e1 : lastN [nc] = str [99] := rfl
  simp only [outOf, e0, read_c2 ByteArray.empty (by rw [empty_str, nlt_of]; decide), List.nil_append, e1, read_bb]
  rw [show wrap64 (((2 : Nat) : Int) + 1) = 3 by kernel_rfl]
theorem ok_bc : okS [nb, nc] = true := by
  have h1 : nlt ByteArray.empty (str [98]) = true := by rw [empty_str, nlt_of]; decide
  have h2 : nlt (str [98]) (str [99]) = true := by rw [nlt_of]; decide
  simp only [okS, okFrom, nb, nc, fit_b, fit_c, h1, h2]
  decide
theorem show_b : showL [(1000000, 2000000)] = [62, 61, 49, 46, 48, 46, 48, 32, 60, 50, 46, 48, 46, 48] := by
  have h1 : isSet (-1) [((1000000 : Int), (2000000 : Int))] = true := by decide
  have e1 : tz 1000000 = [49, 46, 48, 46, 48] := (tz_in (by omega) (by omega)).trans t100
  have e2 : tz 2000000 = [50, 46, 48, 46, 48] := (tz_in (by omega) (by omega)).trans t200
  unfold showL
  rw [if_neg (by rw [h1]; simp), if_neg (by decide), if_neg (by decide)]
  simp only [joinL, partL]
  rw [if_neg (by decide), if_neg (by decide), if_neg (by decide), e1, e2]
  rfl
theorem show_c : showL [(0, 1000000000)] = [97, 110, 121] := by
  unfold showL
  rw [if_neg (by decide), if_neg (by decide), if_pos rfl]
  rfl
theorem join_bc : joinB [nb, nc] = [98, 32, 62, 61, 49, 46, 48, 46, 48, 32, 60, 50, 46, 48, 46, 48, 59, 32, 99, 32, 97, 110, 121] := by
  have e1 : (partB nb).data.toList = [98, 32, 62, 61, 49, 46, 48, 46, 48, 32, 60, 50, 46, 48, 46, 48] := by
    unfold partB nb
    rw [show_b, show (⟨#[32]⟩ : ByteArray) = str [32] from rfl, str_append, str_append]
    rfl
  have e2 : (partB nc).data.toList = [99, 32, 97, 110, 121] := by
    unfold partB nc
    rw [show_c, show (⟨#[32]⟩ : ByteArray) = str [32] from rfl, str_append, str_append]
    rfl
  unfold joinB
  rw [List.map_cons, List.map_cons, List.map_nil, e1, e2]
  rfl
set_option maxHeartbeats 2000000 in
set_option maxRecDepth 100000 in
theorem awake_any (w : World) (hT : Tabs w) : Calls Tryz.prog 6 #[] w (Tells w (.bool true)) := by
  have H1 : Hid (Calls Tryz.prog 17 #[.string ⟨#[98, 32, 94, 49, 46, 48, 46, 48, 59, 32, 99]⟩] w fun e w' => ∃ A c, e = .returned (.tuple #[.slice A 2 c, .int .i64 0, .int .i64 0]) ∧ NdOn w' A 2 [nb, nc] ∧ Below w.heap.size w w') := hide (by
    have := readAll_any tx1 w (by decide) (by decide) hT
    rw [out1] at this
    refine this.mono ?_
    rintro e w' ⟨A, n, c, rfl, h, hb⟩
    have : n = 2 := by rw [← h.len]; rfl
    subst this
    exact ⟨A, c, rfl, h, hb⟩)
  have H2 : Hid (∀ wx, Below w.heap.size w wx → Calls Tryz.prog 17 #[.string ⟨#[99, 59, 32, 98]⟩] wx fun e w' => ∃ A n c, e = .returned (.tuple #[.slice A n c, .int .i64 3, .int .i64 3]) ∧ Below wx.heap.size wx w') := hide (fun wx hb => by
    have := readAll_any tx2 wx (by decide) (by decide) (hT.below hb)
    rw [out2] at this
    refine this.mono ?_
    rintro e w' ⟨A, n, c, rfl, h, hb⟩
    exact ⟨A, n, c, rfl, hb⟩)
  have H3 : Hid (∀ wx A c, NdOn wx A 2 [nb, nc] → Below w.heap.size w wx → Calls Tryz.prog 18 #[.slice A 2 c] wx (Tells wx (.string ⟨#[98, 32, 62, 61, 49, 46, 48, 46, 48, 32, 60, 50, 46, 48, 46, 48, 59, 32, 99, 32, 97, 110, 121]⟩))) := hide (fun wx A c hx hb => by
    have := showN_any [nb, nc] A 2 c wx hx ok_bc (by rw [join_bc]; decide) (by
      intro q hq
      rcases List.mem_cons.1 hq with rfl | hq
      · show (showL [(1000000, 2000000)]).length ≤ _; rw [show_b]; decide
      · rw [List.mem_singleton.1 hq]; show (showL [(0, 1000000000)]).length ≤ _; rw [show_c]; decide) (hT.below hb)
    rw [join_bc] at this
    exact this)
  clear hT
  unfold Tells at *
  go_enter Tryz.func6, Tryz.ntmps6
  go_wp2_with (first
    | (go_at_call 18
       refine (H3.out _ _ _ h1' hb2).mono ?_
       rintro e w3 ⟨rfl, hb3'⟩
       have hb3 := hb2.trans (hb3'.mono hb2.size))
    | (go_at_call 17
       refine (H2.out _ hb1).mono ?_
       rintro e w2 ⟨A2, n2, c2, rfl, hb2'⟩
       have hb2 := hb1.trans (hb2'.mono hb1.size)
       have h1' := h1.on hb2')
    | (go_at_call 17
       refine H1.out.mono ?_
       rintro e w1 ⟨A1, c1, rfl, h1, hb1⟩))
  go_ret
  exact ⟨rfl, hb3⟩
end Go.Proofs.YtmcpdcfeappokaaGreatDoor.Need
/-
  The walk of NeedLists: any two lists, any name. Condition: the tables hold what the texts lay in them.
-/
namespace Go.Proofs.YtmcpdcfeappokaaGreatDoor.Need
open Go Go.RowKit Go.Lib Go.Proofs.YtmcpdcfeappokaaGreatDoor.Span
open Go.Proofs.YtmcpdcfeappokaaGreatDoor.Ver (Tabs)
set_option linter.unusedVariables false
theorem not_large {l : List Nd} (h : large l = false) : l.length ≤ 40 ∧ ∀ q ∈ l, q.1.size ≤ 100 ∧ q.2.length ≤ 40 := by
  unfold large at h
  obtain ⟨h1, h2⟩ := Bool.or_eq_false_iff.1 h
  refine ⟨by have := of_decide_eq_false h1; omega, fun q hq => ?_⟩
  have := List.any_eq_false.1 h2 q hq
  unfold bigN at this
  simp at this
  omega
set_option maxHeartbeats 8000000 in
set_option maxRecDepth 100000 in
theorem lists_la (a b : List Nd) (nm : ByteArray) (A0 : Option Addr) (n0 c0 : Nat) (A1 : Option Addr) (n1 c1 : Nat) (w : World) (hn0 : n0 ≤ 9223372036854775807) (hn1 : n1 ≤ 9223372036854775807)
    (h0 : NdOn w A0 n0 a) (h1 : NdOn w A1 n1 b) (hT : Tabs w)
    (hla : large a = true) :
    Calls Tryz.prog 3 #[.slice A0 n0 c0, .slice A1 n1 c1, .string nm] w fun e w' => e = .returned (.bool true) ∧ Below w.heap.size w w' := by
  have hbw : Below w.heap.size w w := Below.refl _ _
  have HT := hide (fun wx (hb : Below w.heap.size w wx) => awake_any wx (hT.below hb))
  have HLa : Hid (∀ wx, NdOn wx A0 n0 a → Calls Tryz.prog 5 #[.slice A0 n0 c0] wx fun e w' => e = .returned (.bool true) ∧ Below wx.heap.size wx w') := hide (fun wx h => by have := large_any a A0 n0 c0 wx h hn0; rwa [hla] at this)
  clear hT
  go_enter Tryz.func3, Tryz.ntmps3
  go_wp2_with (first
    | (go_at_call_of 5 (Value.slice A0 n0 c0)
       refine (HLa.out _ h0).mono ?_
       rintro e wn ⟨rfl, hbx⟩
       try have h0 := NdOn.on h0 hbx
       try have h1 := NdOn.on h1 hbx
       try have h3 := SpOn.on h3 hbx
       try have h4 := SpOn.on h4 hbx
       try have h5 := NdOn.on h5 hbx
       try have h6 := NdOn.on h6 hbx
       have hbw := hbw.trans (hbx.mono hbw.size))
    | (go_at_call_of 5 (Value.slice A1 n1 c1)
       refine (HLb.out _ h1).mono ?_
       rintro e wn ⟨rfl, hbx⟩
       try have h0 := NdOn.on h0 hbx
       try have h1 := NdOn.on h1 hbx
       try have h3 := SpOn.on h3 hbx
       try have h4 := SpOn.on h4 hbx
       try have h5 := NdOn.on h5 hbx
       try have h6 := NdOn.on h6 hbx
       have hbw := hbw.trans (hbx.mono hbw.size))
    | (go_at_call 6
       refine (HT.out _ hbw).mono ?_
       rintro e wn ⟨rfl, hbx⟩
       have hbw := hbw.trans (hbx.mono hbw.size)))
  go_ret
  exact ⟨rfl, hbw⟩
set_option maxHeartbeats 8000000 in
set_option maxRecDepth 100000 in
theorem lists_lb (a b : List Nd) (nm : ByteArray) (A0 : Option Addr) (n0 c0 : Nat) (A1 : Option Addr) (n1 c1 : Nat) (w : World) (hn0 : n0 ≤ 9223372036854775807) (hn1 : n1 ≤ 9223372036854775807)
    (h0 : NdOn w A0 n0 a) (h1 : NdOn w A1 n1 b) (hT : Tabs w)
    (hla : large a = false) (hlb : large b = true) :
    Calls Tryz.prog 3 #[.slice A0 n0 c0, .slice A1 n1 c1, .string nm] w fun e w' => e = .returned (.bool true) ∧ Below w.heap.size w w' := by
  have hbw : Below w.heap.size w w := Below.refl _ _
  have HT := hide (fun wx (hb : Below w.heap.size w wx) => awake_any wx (hT.below hb))
  have HLa : Hid (∀ wx, NdOn wx A0 n0 a → Calls Tryz.prog 5 #[.slice A0 n0 c0] wx fun e w' => e = .returned (.bool false) ∧ Below wx.heap.size wx w') := hide (fun wx h => by have := large_any a A0 n0 c0 wx h hn0; rwa [hla] at this)
  have HLb : Hid (∀ wx, NdOn wx A1 n1 b → Calls Tryz.prog 5 #[.slice A1 n1 c1] wx fun e w' => e = .returned (.bool true) ∧ Below wx.heap.size wx w') := hide (fun wx h => by have := large_any b A1 n1 c1 wx h hn1; rwa [hlb] at this)
  clear hT
  go_enter Tryz.func3, Tryz.ntmps3
  go_wp2_with (first
    | (go_at_call_of 5 (Value.slice A0 n0 c0)
       refine (HLa.out _ h0).mono ?_
       rintro e wn ⟨rfl, hbx⟩
       try have h0 := NdOn.on h0 hbx
       try have h1 := NdOn.on h1 hbx
       try have h3 := SpOn.on h3 hbx
       try have h4 := SpOn.on h4 hbx
       try have h5 := NdOn.on h5 hbx
       try have h6 := NdOn.on h6 hbx
       have hbw := hbw.trans (hbx.mono hbw.size))
    | (go_at_call_of 5 (Value.slice A1 n1 c1)
       refine (HLb.out _ h1).mono ?_
       rintro e wn ⟨rfl, hbx⟩
       try have h0 := NdOn.on h0 hbx
       try have h1 := NdOn.on h1 hbx
       try have h3 := SpOn.on h3 hbx
       try have h4 := SpOn.on h4 hbx
       try have h5 := NdOn.on h5 hbx
       try have h6 := NdOn.on h6 hbx
       have hbw := hbw.trans (hbx.mono hbw.size))
    | (go_at_call 6
       refine (HT.out _ hbw).mono ?_
       rintro e wn ⟨rfl, hbx⟩
       have hbw := hbw.trans (hbx.mono hbw.size)))
  go_ret
  exact ⟨rfl, hbw⟩
set_option maxHeartbeats 8000000 in
set_option maxRecDepth 100000 in
theorem lists_ca (a b : List Nd) (nm : ByteArray) (A0 : Option Addr) (n0 c0 : Nat) (A1 : Option Addr) (n1 c1 : Nat) (w : World) (hn0 : n0 ≤ 9223372036854775807) (hn1 : n1 ≤ 9223372036854775807)
    (h0 : NdOn w A0 n0 a) (h1 : NdOn w A1 n1 b) (hT : Tabs w)
    (hla : large a = false) (hlb : large b = false) (hca : okS a = false) :
    Calls Tryz.prog 3 #[.slice A0 n0 c0, .slice A1 n1 c1, .string nm] w fun e w' => e = .returned (.bool true) ∧ Below w.heap.size w w' := by
  have hbw : Below w.heap.size w w := Below.refl _ _
  have HT := hide (fun wx (hb : Below w.heap.size w wx) => awake_any wx (hT.below hb))
  have HLa : Hid (∀ wx, NdOn wx A0 n0 a → Calls Tryz.prog 5 #[.slice A0 n0 c0] wx fun e w' => e = .returned (.bool false) ∧ Below wx.heap.size wx w') := hide (fun wx h => by have := large_any a A0 n0 c0 wx h hn0; rwa [hla] at this)
  have HLb : Hid (∀ wx, NdOn wx A1 n1 b → Calls Tryz.prog 5 #[.slice A1 n1 c1] wx fun e w' => e = .returned (.bool false) ∧ Below wx.heap.size wx w') := hide (fun wx h => by have := large_any b A1 n1 c1 wx h hn1; rwa [hlb] at this)
  obtain ⟨la, qa⟩ := not_large hla
  obtain ⟨lb, qb⟩ := not_large hlb
  have hn0 : n0 ≤ 140737488355328 := by have := h0.len; omega
  have hn1 : n1 ≤ 140737488355328 := by have := h1.len; omega
  have sa : Short a := fun q hq => by have := (qa q hq).2; omega
  have sb : Short b := fun q hq => by have := (qb q hq).2; omega
  have na : Names a := fun q hq => by have := qa q hq; omega
  have n9 : Names9 a := fun q hq => by have := qa q hq; omega
  have n9b : Names9 b := fun q hq => by have := qb q hq; omega
  have HC : Hid (∀ wx, NdOn wx A0 n0 a → Calls Tryz.prog 9 #[.slice A0 n0 c0] wx fun e w' => e = .returned (.bool false) ∧ Below wx.heap.size wx w') := hide (fun wx h => by have := checkN_any a A0 n0 c0 wx h na hn0; rwa [hca] at this)
  have HRa : Hid (∀ wx, NdOn wx A0 n0 a → Calls Tryz.prog 10 #[.slice A0 n0 c0] wx fun e w' => e = .returned (.bool false) ∧ Below wx.heap.size wx w') := hide (fun wx h => by have := refCheckN_any a A0 n0 c0 wx h n9 hn0; rwa [hca] at this)
  have HS := hide (fun wx (h : NdOn wx A0 n0 a) (h' : NdOn wx A1 n1 b) => sameN_any a b A0 A1 n0 c0 n1 c1 wx h h' sa sb hn0)
  have HRS := hide (fun wx (h : NdOn wx A0 n0 a) (h' : NdOn wx A1 n1 b) => refSameN_any a b A0 A1 n0 c0 n1 c1 wx h h' sa sb hn0)
  have HF := hide (fun wx (h : NdOn wx A0 n0 a) => findN_any a nm A0 n0 c0 wx h (fun q hq => by have := qa q hq; omega) hn0)
  have HRF := hide (fun wx (h : NdOn wx A0 n0 a) => refFindN_any a nm A0 n0 c0 wx h hn0)
  have hfl : ((findS a nm).getD []).length ≤ 40 := by
    cases hf : findS a nm with
    | none => exact Nat.zero_le _
    | some s => exact (qa _ (find_in hf)).2
  have HSS := hide (fun wx {A n c A' n' c'} (h : SpOn wx A n ((findS a nm).getD [])) (h' : SpOn wx A' n' ((findS a nm).getD [])) => refSame_yes (c := c) (c' := c') h h' (by have := h.len; omega) rfl)
  unfold Finds at HF HRF
  generalize (findS a nm).isSome = fi at *
  generalize (findS a nm).getD [] = fs at *
  generalize decide (a = b) = q at *
  clear hT la lb qa qb sa sb na n9 n9b hla hlb hca hfl
  go_enter Tryz.func3, Tryz.ntmps3
  go_wp2_with (first
    | (go_at_call 9
       refine (HC.out _ h0).mono ?_
       rintro e wn ⟨rfl, hbx⟩
       try have h0 := NdOn.on h0 hbx
       try have h1 := NdOn.on h1 hbx
       try have h3 := SpOn.on h3 hbx
       try have h4 := SpOn.on h4 hbx
       try have h5 := NdOn.on h5 hbx
       try have h6 := NdOn.on h6 hbx
       have hbw := hbw.trans (hbx.mono hbw.size))
    | (go_at_call_of 10 (Value.slice A0 n0 c0)
       refine (HRa.out _ h0).mono ?_
       rintro e wn ⟨rfl, hbx⟩
       try have h0 := NdOn.on h0 hbx
       try have h1 := NdOn.on h1 hbx
       try have h3 := SpOn.on h3 hbx
       try have h4 := SpOn.on h4 hbx
       try have h5 := NdOn.on h5 hbx
       try have h6 := NdOn.on h6 hbx
       have hbw := hbw.trans (hbx.mono hbw.size))
    | (go_at_call_of 12 (Value.slice A0 n0 c0)
       refine (HRS.out _ h0 h1).mono ?_
       rintro e wn ⟨rfl, hbx⟩
       try have h0 := NdOn.on h0 hbx
       try have h1 := NdOn.on h1 hbx
       try have h3 := SpOn.on h3 hbx
       try have h4 := SpOn.on h4 hbx
       try have h5 := NdOn.on h5 hbx
       try have h6 := NdOn.on h6 hbx
       have hbw := hbw.trans (hbx.mono hbw.size))
    | (go_at_call 11
       refine (HS.out _ h0 h1).mono ?_
       rintro e wn ⟨rfl, hbx⟩
       try have h0 := NdOn.on h0 hbx
       try have h1 := NdOn.on h1 hbx
       try have h3 := SpOn.on h3 hbx
       try have h4 := SpOn.on h4 hbx
       try have h5 := NdOn.on h5 hbx
       try have h6 := NdOn.on h6 hbx
       have hbw := hbw.trans (hbx.mono hbw.size))
    | (go_at_call 7
       refine (HF.out _ h0).mono ?_
       rintro e wn ⟨A3, n3, c3, rfl, h3, hbx⟩
       try have h0 := NdOn.on h0 hbx
       try have h1 := NdOn.on h1 hbx
       try have h4 := SpOn.on h4 hbx
       try have h5 := NdOn.on h5 hbx
       try have h6 := NdOn.on h6 hbx
       have hbw := hbw.trans (hbx.mono hbw.size))
    | (go_at_call 8
       refine (HRF.out _ h0).mono ?_
       rintro e wn ⟨A4, n4, c4, rfl, h4, hbx⟩
       try have h0 := NdOn.on h0 hbx
       try have h1 := NdOn.on h1 hbx
       try have h3 := SpOn.on h3 hbx
       try have h5 := NdOn.on h5 hbx
       try have h6 := NdOn.on h6 hbx
       have hbw := hbw.trans (hbx.mono hbw.size))
    | (go_at_call 13
       refine (HSS.out _ h3 h4).mono ?_
       rintro e wn ⟨rfl, hbx⟩
       try have h0 := NdOn.on h0 hbx
       try have h1 := NdOn.on h1 hbx
       try have h3 := SpOn.on h3 hbx
       try have h4 := SpOn.on h4 hbx
       try have h5 := NdOn.on h5 hbx
       try have h6 := NdOn.on h6 hbx
       have hbw := hbw.trans (hbx.mono hbw.size))
    | (go_at_call_of 5 (Value.slice A0 n0 c0)
       refine (HLa.out _ h0).mono ?_
       rintro e wn ⟨rfl, hbx⟩
       try have h0 := NdOn.on h0 hbx
       try have h1 := NdOn.on h1 hbx
       try have h3 := SpOn.on h3 hbx
       try have h4 := SpOn.on h4 hbx
       try have h5 := NdOn.on h5 hbx
       try have h6 := NdOn.on h6 hbx
       have hbw := hbw.trans (hbx.mono hbw.size))
    | (go_at_call_of 5 (Value.slice A1 n1 c1)
       refine (HLb.out _ h1).mono ?_
       rintro e wn ⟨rfl, hbx⟩
       try have h0 := NdOn.on h0 hbx
       try have h1 := NdOn.on h1 hbx
       try have h3 := SpOn.on h3 hbx
       try have h4 := SpOn.on h4 hbx
       try have h5 := NdOn.on h5 hbx
       try have h6 := NdOn.on h6 hbx
       have hbw := hbw.trans (hbx.mono hbw.size))
    | (go_at_call 6
       refine (HT.out _ hbw).mono ?_
       rintro e wn ⟨rfl, hbx⟩
       have hbw := hbw.trans (hbx.mono hbw.size)))
  go_ret
  exact ⟨rfl, hbw⟩
set_option maxHeartbeats 8000000 in
set_option maxRecDepth 100000 in
theorem lists_cb (a b : List Nd) (nm : ByteArray) (A0 : Option Addr) (n0 c0 : Nat) (A1 : Option Addr) (n1 c1 : Nat) (w : World) (hn0 : n0 ≤ 9223372036854775807) (hn1 : n1 ≤ 9223372036854775807)
    (h0 : NdOn w A0 n0 a) (h1 : NdOn w A1 n1 b) (hT : Tabs w)
    (hla : large a = false) (hlb : large b = false) (hca : okS a = true) (hcb : okS b = false) :
    Calls Tryz.prog 3 #[.slice A0 n0 c0, .slice A1 n1 c1, .string nm] w fun e w' => e = .returned (.bool true) ∧ Below w.heap.size w w' := by
  have hbw : Below w.heap.size w w := Below.refl _ _
  have HT := hide (fun wx (hb : Below w.heap.size w wx) => awake_any wx (hT.below hb))
  have HLa : Hid (∀ wx, NdOn wx A0 n0 a → Calls Tryz.prog 5 #[.slice A0 n0 c0] wx fun e w' => e = .returned (.bool false) ∧ Below wx.heap.size wx w') := hide (fun wx h => by have := large_any a A0 n0 c0 wx h hn0; rwa [hla] at this)
  have HLb : Hid (∀ wx, NdOn wx A1 n1 b → Calls Tryz.prog 5 #[.slice A1 n1 c1] wx fun e w' => e = .returned (.bool false) ∧ Below wx.heap.size wx w') := hide (fun wx h => by have := large_any b A1 n1 c1 wx h hn1; rwa [hlb] at this)
  obtain ⟨la, qa⟩ := not_large hla
  obtain ⟨lb, qb⟩ := not_large hlb
  have hn0 : n0 ≤ 140737488355328 := by have := h0.len; omega
  have hn1 : n1 ≤ 140737488355328 := by have := h1.len; omega
  have sa : Short a := fun q hq => by have := (qa q hq).2; omega
  have sb : Short b := fun q hq => by have := (qb q hq).2; omega
  have na : Names a := fun q hq => by have := qa q hq; omega
  have n9 : Names9 a := fun q hq => by have := qa q hq; omega
  have n9b : Names9 b := fun q hq => by have := qb q hq; omega
  have HC : Hid (∀ wx, NdOn wx A0 n0 a → Calls Tryz.prog 9 #[.slice A0 n0 c0] wx fun e w' => e = .returned (.bool true) ∧ Below wx.heap.size wx w') := hide (fun wx h => by have := checkN_any a A0 n0 c0 wx h na hn0; rwa [hca] at this)
  have HRa : Hid (∀ wx, NdOn wx A0 n0 a → Calls Tryz.prog 10 #[.slice A0 n0 c0] wx fun e w' => e = .returned (.bool true) ∧ Below wx.heap.size wx w') := hide (fun wx h => by have := refCheckN_any a A0 n0 c0 wx h n9 hn0; rwa [hca] at this)
  have HRb : Hid (∀ wx, NdOn wx A1 n1 b → Calls Tryz.prog 10 #[.slice A1 n1 c1] wx fun e w' => e = .returned (.bool false) ∧ Below wx.heap.size wx w') := hide (fun wx h => by have := refCheckN_any b A1 n1 c1 wx h n9b hn1; rwa [hcb] at this)
  have HS := hide (fun wx (h : NdOn wx A0 n0 a) (h' : NdOn wx A1 n1 b) => sameN_any a b A0 A1 n0 c0 n1 c1 wx h h' sa sb hn0)
  have HRS := hide (fun wx (h : NdOn wx A0 n0 a) (h' : NdOn wx A1 n1 b) => refSameN_any a b A0 A1 n0 c0 n1 c1 wx h h' sa sb hn0)
  have HF := hide (fun wx (h : NdOn wx A0 n0 a) => findN_any a nm A0 n0 c0 wx h (fun q hq => by have := qa q hq; omega) hn0)
  have HRF := hide (fun wx (h : NdOn wx A0 n0 a) => refFindN_any a nm A0 n0 c0 wx h hn0)
  have hfl : ((findS a nm).getD []).length ≤ 40 := by
    cases hf : findS a nm with
    | none => exact Nat.zero_le _
    | some s => exact (qa _ (find_in hf)).2
  have HSS := hide (fun wx {A n c A' n' c'} (h : SpOn wx A n ((findS a nm).getD [])) (h' : SpOn wx A' n' ((findS a nm).getD [])) => refSame_yes (c := c) (c' := c') h h' (by have := h.len; omega) rfl)
  unfold Finds at HF HRF
  generalize (findS a nm).isSome = fi at *
  generalize (findS a nm).getD [] = fs at *
  generalize decide (a = b) = q at *
  clear hT la lb qa qb sa sb na n9 n9b hla hlb hca hcb hfl
  go_enter Tryz.func3, Tryz.ntmps3
  go_wp2_with (first
    | (go_at_call 9
       refine (HC.out _ h0).mono ?_
       rintro e wn ⟨rfl, hbx⟩
       try have h0 := NdOn.on h0 hbx
       try have h1 := NdOn.on h1 hbx
       try have h3 := SpOn.on h3 hbx
       try have h4 := SpOn.on h4 hbx
       try have h5 := NdOn.on h5 hbx
       try have h6 := NdOn.on h6 hbx
       have hbw := hbw.trans (hbx.mono hbw.size))
    | (go_at_call_of 10 (Value.slice A0 n0 c0)
       refine (HRa.out _ h0).mono ?_
       rintro e wn ⟨rfl, hbx⟩
       try have h0 := NdOn.on h0 hbx
       try have h1 := NdOn.on h1 hbx
       try have h3 := SpOn.on h3 hbx
       try have h4 := SpOn.on h4 hbx
       try have h5 := NdOn.on h5 hbx
       try have h6 := NdOn.on h6 hbx
       have hbw := hbw.trans (hbx.mono hbw.size))
    | (go_at_call_of 10 (Value.slice A1 n1 c1)
       refine (HRb.out _ h1).mono ?_
       rintro e wn ⟨rfl, hbx⟩
       try have h0 := NdOn.on h0 hbx
       try have h1 := NdOn.on h1 hbx
       try have h3 := SpOn.on h3 hbx
       try have h4 := SpOn.on h4 hbx
       try have h5 := NdOn.on h5 hbx
       try have h6 := NdOn.on h6 hbx
       have hbw := hbw.trans (hbx.mono hbw.size))
    | (go_at_call_of 12 (Value.slice A0 n0 c0)
       refine (HRS.out _ h0 h1).mono ?_
       rintro e wn ⟨rfl, hbx⟩
       try have h0 := NdOn.on h0 hbx
       try have h1 := NdOn.on h1 hbx
       try have h3 := SpOn.on h3 hbx
       try have h4 := SpOn.on h4 hbx
       try have h5 := NdOn.on h5 hbx
       try have h6 := NdOn.on h6 hbx
       have hbw := hbw.trans (hbx.mono hbw.size))
    | (go_at_call 11
       refine (HS.out _ h0 h1).mono ?_
       rintro e wn ⟨rfl, hbx⟩
       try have h0 := NdOn.on h0 hbx
       try have h1 := NdOn.on h1 hbx
       try have h3 := SpOn.on h3 hbx
       try have h4 := SpOn.on h4 hbx
       try have h5 := NdOn.on h5 hbx
       try have h6 := NdOn.on h6 hbx
       have hbw := hbw.trans (hbx.mono hbw.size))
    | (go_at_call 7
       refine (HF.out _ h0).mono ?_
       rintro e wn ⟨A3, n3, c3, rfl, h3, hbx⟩
       try have h0 := NdOn.on h0 hbx
       try have h1 := NdOn.on h1 hbx
       try have h4 := SpOn.on h4 hbx
       try have h5 := NdOn.on h5 hbx
       try have h6 := NdOn.on h6 hbx
       have hbw := hbw.trans (hbx.mono hbw.size))
    | (go_at_call 8
       refine (HRF.out _ h0).mono ?_
       rintro e wn ⟨A4, n4, c4, rfl, h4, hbx⟩
       try have h0 := NdOn.on h0 hbx
       try have h1 := NdOn.on h1 hbx
       try have h3 := SpOn.on h3 hbx
       try have h5 := NdOn.on h5 hbx
       try have h6 := NdOn.on h6 hbx
       have hbw := hbw.trans (hbx.mono hbw.size))
    | (go_at_call 13
       refine (HSS.out _ h3 h4).mono ?_
       rintro e wn ⟨rfl, hbx⟩
       try have h0 := NdOn.on h0 hbx
       try have h1 := NdOn.on h1 hbx
       try have h3 := SpOn.on h3 hbx
       try have h4 := SpOn.on h4 hbx
       try have h5 := NdOn.on h5 hbx
       try have h6 := NdOn.on h6 hbx
       have hbw := hbw.trans (hbx.mono hbw.size))
    | (go_at_call_of 5 (Value.slice A0 n0 c0)
       refine (HLa.out _ h0).mono ?_
       rintro e wn ⟨rfl, hbx⟩
       try have h0 := NdOn.on h0 hbx
       try have h1 := NdOn.on h1 hbx
       try have h3 := SpOn.on h3 hbx
       try have h4 := SpOn.on h4 hbx
       try have h5 := NdOn.on h5 hbx
       try have h6 := NdOn.on h6 hbx
       have hbw := hbw.trans (hbx.mono hbw.size))
    | (go_at_call_of 5 (Value.slice A1 n1 c1)
       refine (HLb.out _ h1).mono ?_
       rintro e wn ⟨rfl, hbx⟩
       try have h0 := NdOn.on h0 hbx
       try have h1 := NdOn.on h1 hbx
       try have h3 := SpOn.on h3 hbx
       try have h4 := SpOn.on h4 hbx
       try have h5 := NdOn.on h5 hbx
       try have h6 := NdOn.on h6 hbx
       have hbw := hbw.trans (hbx.mono hbw.size))
    | (go_at_call 6
       refine (HT.out _ hbw).mono ?_
       rintro e wn ⟨rfl, hbx⟩
       have hbw := hbw.trans (hbx.mono hbw.size)))
  go_ret
  exact ⟨rfl, hbw⟩
set_option maxHeartbeats 8000000 in
set_option maxRecDepth 100000 in
theorem lists_ok (a b : List Nd) (nm : ByteArray) (A0 : Option Addr) (n0 c0 : Nat) (A1 : Option Addr) (n1 c1 : Nat) (w : World) (hn0 : n0 ≤ 9223372036854775807) (hn1 : n1 ≤ 9223372036854775807)
    (h0 : NdOn w A0 n0 a) (h1 : NdOn w A1 n1 b) (hT : Tabs w)
    (hla : large a = false) (hlb : large b = false) (hca : okS a = true) (hcb : okS b = true) :
    Calls Tryz.prog 3 #[.slice A0 n0 c0, .slice A1 n1 c1, .string nm] w fun e w' => e = .returned (.bool true) ∧ Below w.heap.size w w' := by
  have hbw : Below w.heap.size w w := Below.refl _ _
  have HT := hide (fun wx (hb : Below w.heap.size w wx) => awake_any wx (hT.below hb))
  have HLa : Hid (∀ wx, NdOn wx A0 n0 a → Calls Tryz.prog 5 #[.slice A0 n0 c0] wx fun e w' => e = .returned (.bool false) ∧ Below wx.heap.size wx w') := hide (fun wx h => by have := large_any a A0 n0 c0 wx h hn0; rwa [hla] at this)
  have HLb : Hid (∀ wx, NdOn wx A1 n1 b → Calls Tryz.prog 5 #[.slice A1 n1 c1] wx fun e w' => e = .returned (.bool false) ∧ Below wx.heap.size wx w') := hide (fun wx h => by have := large_any b A1 n1 c1 wx h hn1; rwa [hlb] at this)
  obtain ⟨la, qa⟩ := not_large hla
  obtain ⟨lb, qb⟩ := not_large hlb
  have hn0 : n0 ≤ 140737488355328 := by have := h0.len; omega
  have hn1 : n1 ≤ 140737488355328 := by have := h1.len; omega
  have sa : Short a := fun q hq => by have := (qa q hq).2; omega
  have sb : Short b := fun q hq => by have := (qb q hq).2; omega
  have na : Names a := fun q hq => by have := qa q hq; omega
  have n9 : Names9 a := fun q hq => by have := qa q hq; omega
  have n9b : Names9 b := fun q hq => by have := qb q hq; omega
  have HC : Hid (∀ wx, NdOn wx A0 n0 a → Calls Tryz.prog 9 #[.slice A0 n0 c0] wx fun e w' => e = .returned (.bool true) ∧ Below wx.heap.size wx w') := hide (fun wx h => by have := checkN_any a A0 n0 c0 wx h na hn0; rwa [hca] at this)
  have HRa : Hid (∀ wx, NdOn wx A0 n0 a → Calls Tryz.prog 10 #[.slice A0 n0 c0] wx fun e w' => e = .returned (.bool true) ∧ Below wx.heap.size wx w') := hide (fun wx h => by have := refCheckN_any a A0 n0 c0 wx h n9 hn0; rwa [hca] at this)
  have HRb : Hid (∀ wx, NdOn wx A1 n1 b → Calls Tryz.prog 10 #[.slice A1 n1 c1] wx fun e w' => e = .returned (.bool true) ∧ Below wx.heap.size wx w') := hide (fun wx h => by have := refCheckN_any b A1 n1 c1 wx h n9b hn1; rwa [hcb] at this)
  have HS := hide (fun wx (h : NdOn wx A0 n0 a) (h' : NdOn wx A1 n1 b) => sameN_any a b A0 A1 n0 c0 n1 c1 wx h h' sa sb hn0)
  have HRS := hide (fun wx (h : NdOn wx A0 n0 a) (h' : NdOn wx A1 n1 b) => refSameN_any a b A0 A1 n0 c0 n1 c1 wx h h' sa sb hn0)
  have HF := hide (fun wx (h : NdOn wx A0 n0 a) => findN_any a nm A0 n0 c0 wx h (fun q hq => by have := qa q hq; omega) hn0)
  have HRF := hide (fun wx (h : NdOn wx A0 n0 a) => refFindN_any a nm A0 n0 c0 wx h hn0)
  have hfl : ((findS a nm).getD []).length ≤ 40 := by
    cases hf : findS a nm with
    | none => exact Nat.zero_le _
    | some s => exact (qa _ (find_in hf)).2
  have HSS := hide (fun wx {A n c A' n' c'} (h : SpOn wx A n ((findS a nm).getD [])) (h' : SpOn wx A' n' ((findS a nm).getD [])) => refSame_yes (c := c) (c' := c') h h' (by have := h.len; omega) rfl)
  obtain ⟨oa1, oa2, oa3, oa4⟩ := okS_parts hca
  obtain ⟨ob1, ob2, ob3, ob4⟩ := okS_parts hcb
  have HB := hide (fun wx (h : NdOn wx A0 n0 a) (h' : NdOn wx A1 n1 b) => bothN_any a b A0 A1 n0 c0 n1 c1 wx h h' (fun q hq => ⟨by have := qa q hq; omega, (oa4 q hq).1⟩) (fun q hq => ⟨by have := qb q hq; omega, (ob4 q hq).1⟩) (by have := h.len; omega) (by have := h'.len; omega))
  have HRB := hide (fun wx (h : NdOn wx A0 n0 a) (h' : NdOn wx A1 n1 b) => refBothN_any a b A0 A1 n0 c0 n1 c1 wx h h' oa3 ob3 (fun q hq => by have := qa q hq; omega) (fun q hq => by have := qb q hq; omega) (by have := h.len; omega) (by have := h'.len; omega))
  have sm : Short (mergeS a b) := fun q hq => Nat.le_trans (len_le (merge_sets (fun q hq => (oa4 q hq).1) (fun q hq => (ob4 q hq).1) q hq)) (by decide)
  have lm : (mergeS a b).length ≤ 80 := by have := @merge_len a b; omega
  have HBB : Hid (∀ wx {A n c A' n' c'}, NdOn wx A n (mergeS a b) → NdOn wx A' n' (mergeS a b) → Calls Tryz.prog 12 #[.slice A n c, .slice A' n' c'] wx fun e w' => e = .returned (.bool true) ∧ Below wx.heap.size wx w') := hide (fun wx A n c A' n' c' h h' => by have := refSameN_any (mergeS a b) (mergeS a b) A A' n c n' c' wx h h' sm sm (by have := h.len; omega); rwa [decide_eq_true rfl] at this)
  clear sm lm oa1 oa2 oa3 oa4 ob1 ob2 ob3 ob4
  unfold Finds at HF HRF
  generalize (findS a nm).isSome = fi at *
  generalize (findS a nm).getD [] = fs at *
  generalize decide (a = b) = q at *
  generalize mergeS a b = M at *
  clear hT la lb qa qb sa sb na n9 n9b hla hlb hca hcb hfl
  go_enter Tryz.func3, Tryz.ntmps3
  go_wp2_with (first
    | (go_at_call 9
       refine (HC.out _ h0).mono ?_
       rintro e wn ⟨rfl, hbx⟩
       try have h0 := NdOn.on h0 hbx
       try have h1 := NdOn.on h1 hbx
       try have h3 := SpOn.on h3 hbx
       try have h4 := SpOn.on h4 hbx
       try have h5 := NdOn.on h5 hbx
       try have h6 := NdOn.on h6 hbx
       have hbw := hbw.trans (hbx.mono hbw.size))
    | (go_at_call_of 10 (Value.slice A0 n0 c0)
       refine (HRa.out _ h0).mono ?_
       rintro e wn ⟨rfl, hbx⟩
       try have h0 := NdOn.on h0 hbx
       try have h1 := NdOn.on h1 hbx
       try have h3 := SpOn.on h3 hbx
       try have h4 := SpOn.on h4 hbx
       try have h5 := NdOn.on h5 hbx
       try have h6 := NdOn.on h6 hbx
       have hbw := hbw.trans (hbx.mono hbw.size))
    | (go_at_call_of 10 (Value.slice A1 n1 c1)
       refine (HRb.out _ h1).mono ?_
       rintro e wn ⟨rfl, hbx⟩
       try have h0 := NdOn.on h0 hbx
       try have h1 := NdOn.on h1 hbx
       try have h3 := SpOn.on h3 hbx
       try have h4 := SpOn.on h4 hbx
       try have h5 := NdOn.on h5 hbx
       try have h6 := NdOn.on h6 hbx
       have hbw := hbw.trans (hbx.mono hbw.size))
    | (go_at_call 14
       refine (HB.out _ h0 h1).mono ?_
       rintro e wn ⟨A5, n5, c5, rfl, h5, hbx⟩
       try have h0 := NdOn.on h0 hbx
       try have h1 := NdOn.on h1 hbx
       try have h3 := SpOn.on h3 hbx
       try have h4 := SpOn.on h4 hbx
       try have h6 := NdOn.on h6 hbx
       have hbw := hbw.trans (hbx.mono hbw.size))
    | (go_at_call 15
       refine (HRB.out _ h0 h1).mono ?_
       rintro e wn ⟨A6, n6, c6, rfl, h6, hbx⟩
       try have h0 := NdOn.on h0 hbx
       try have h1 := NdOn.on h1 hbx
       try have h3 := SpOn.on h3 hbx
       try have h4 := SpOn.on h4 hbx
       try have h5 := NdOn.on h5 hbx
       have hbw := hbw.trans (hbx.mono hbw.size))
    | (go_at_call_of 12 (Value.slice A5 n5 c5)
       refine (HBB.out _ h5 h6).mono ?_
       rintro e wn ⟨rfl, hbx⟩
       try have h0 := NdOn.on h0 hbx
       try have h1 := NdOn.on h1 hbx
       try have h3 := SpOn.on h3 hbx
       try have h4 := SpOn.on h4 hbx
       try have h5 := NdOn.on h5 hbx
       try have h6 := NdOn.on h6 hbx
       have hbw := hbw.trans (hbx.mono hbw.size))
    | (go_at_call_of 12 (Value.slice A0 n0 c0)
       refine (HRS.out _ h0 h1).mono ?_
       rintro e wn ⟨rfl, hbx⟩
       try have h0 := NdOn.on h0 hbx
       try have h1 := NdOn.on h1 hbx
       try have h3 := SpOn.on h3 hbx
       try have h4 := SpOn.on h4 hbx
       try have h5 := NdOn.on h5 hbx
       try have h6 := NdOn.on h6 hbx
       have hbw := hbw.trans (hbx.mono hbw.size))
    | (go_at_call 11
       refine (HS.out _ h0 h1).mono ?_
       rintro e wn ⟨rfl, hbx⟩
       try have h0 := NdOn.on h0 hbx
       try have h1 := NdOn.on h1 hbx
       try have h3 := SpOn.on h3 hbx
       try have h4 := SpOn.on h4 hbx
       try have h5 := NdOn.on h5 hbx
       try have h6 := NdOn.on h6 hbx
       have hbw := hbw.trans (hbx.mono hbw.size))
    | (go_at_call 7
       refine (HF.out _ h0).mono ?_
       rintro e wn ⟨A3, n3, c3, rfl, h3, hbx⟩
       try have h0 := NdOn.on h0 hbx
       try have h1 := NdOn.on h1 hbx
       try have h4 := SpOn.on h4 hbx
       try have h5 := NdOn.on h5 hbx
       try have h6 := NdOn.on h6 hbx
       have hbw := hbw.trans (hbx.mono hbw.size))
    | (go_at_call 8
       refine (HRF.out _ h0).mono ?_
       rintro e wn ⟨A4, n4, c4, rfl, h4, hbx⟩
       try have h0 := NdOn.on h0 hbx
       try have h1 := NdOn.on h1 hbx
       try have h3 := SpOn.on h3 hbx
       try have h5 := NdOn.on h5 hbx
       try have h6 := NdOn.on h6 hbx
       have hbw := hbw.trans (hbx.mono hbw.size))
    | (go_at_call 13
       refine (HSS.out _ h3 h4).mono ?_
       rintro e wn ⟨rfl, hbx⟩
       try have h0 := NdOn.on h0 hbx
       try have h1 := NdOn.on h1 hbx
       try have h3 := SpOn.on h3 hbx
       try have h4 := SpOn.on h4 hbx
       try have h5 := NdOn.on h5 hbx
       try have h6 := NdOn.on h6 hbx
       have hbw := hbw.trans (hbx.mono hbw.size))
    | (go_at_call_of 5 (Value.slice A0 n0 c0)
       refine (HLa.out _ h0).mono ?_
       rintro e wn ⟨rfl, hbx⟩
       try have h0 := NdOn.on h0 hbx
       try have h1 := NdOn.on h1 hbx
       try have h3 := SpOn.on h3 hbx
       try have h4 := SpOn.on h4 hbx
       try have h5 := NdOn.on h5 hbx
       try have h6 := NdOn.on h6 hbx
       have hbw := hbw.trans (hbx.mono hbw.size))
    | (go_at_call_of 5 (Value.slice A1 n1 c1)
       refine (HLb.out _ h1).mono ?_
       rintro e wn ⟨rfl, hbx⟩
       try have h0 := NdOn.on h0 hbx
       try have h1 := NdOn.on h1 hbx
       try have h3 := SpOn.on h3 hbx
       try have h4 := SpOn.on h4 hbx
       try have h5 := NdOn.on h5 hbx
       try have h6 := NdOn.on h6 hbx
       have hbw := hbw.trans (hbx.mono hbw.size))
    | (go_at_call 6
       refine (HT.out _ hbw).mono ?_
       rintro e wn ⟨rfl, hbx⟩
       have hbw := hbw.trans (hbx.mono hbw.size)))
  go_ret
  exact ⟨rfl, hbw⟩
theorem lists_walk (a b : List Nd) (nm : ByteArray) (A0 : Option Addr) (n0 c0 : Nat) (A1 : Option Addr) (n1 c1 : Nat) (w : World) (hn0 : n0 ≤ 9223372036854775807) (hn1 : n1 ≤ 9223372036854775807)
    (h0 : NdOn w A0 n0 a) (h1 : NdOn w A1 n1 b) (hT : Tabs w) :
    Calls Tryz.prog 3 #[.slice A0 n0 c0, .slice A1 n1 c1, .string nm] w fun e w' => e = .returned (.bool true) ∧ Below w.heap.size w w' := by
  cases hla : large a with
  | true => exact lists_la a b nm A0 n0 c0 A1 n1 c1 w hn0 hn1 h0 h1 hT hla
  | false =>
    cases hlb : large b with
    | true => exact lists_lb a b nm A0 n0 c0 A1 n1 c1 w hn0 hn1 h0 h1 hT hla hlb
    | false =>
      cases hca : okS a with
      | false => exact lists_ca a b nm A0 n0 c0 A1 n1 c1 w hn0 hn1 h0 h1 hT hla hlb hca
      | true =>
        cases hcb : okS b with
        | false => exact lists_cb a b nm A0 n0 c0 A1 n1 c1 w hn0 hn1 h0 h1 hT hla hlb hca hcb
        | true => exact lists_ok a b nm A0 n0 c0 A1 n1 c1 w hn0 hn1 h0 h1 hT hla hlb hca hcb
end Go.Proofs.YtmcpdcfeappokaaGreatDoor.Need

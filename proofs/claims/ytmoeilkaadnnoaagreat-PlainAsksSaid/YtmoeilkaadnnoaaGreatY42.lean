/-
  Some texts of this claim, one behind the other: ManiNames, ReachFresh, ReachNames, ReachAwakeM, PlainEx. What each proves, and its condition, stands at its head.
-/
import Derived.Test.YtmoeilkaadnnoaaGreatY15
import Derived.Shelf.SlIter.Nil
import Derived.Test.YtmoeilkaadnnoaaGreatY1
import Derived.Test.YtmoeilkaadnnoaaGreatChecked
import Derived.Shelf.SortM.Plain
import Derived.Shelf.SortM.SortNone
import Derived.Sort.OwnSorted
import Derived.Test.YtmoeilkaadnnoaaGreatY22
import Derived.Test.YtmoeilkaadnnoaaGreatY11
import Derived.Maps.OwnSet
import Derived.Test.YtmoeilkaadnnoaaGreatY32
import Derived.Test.YtmoeilkaadnnoaaGreatY36
import Derived.Test.YtmoeilkaadnnoaaGreatY29
import Derived.Test.YtmoeilkaadnnoaaGreatY37
/-
  The contract of Names: the names that a manifest's releases need, by way of a map and its sorted keys. Condition: lists of a length that may be walked.
-/
namespace Go.Proofs.YtmoeilkaadnnoaaGreat.Mani
open Go Go.RowKit Go.Lib Go.Proofs.YtmoeilkaadnnoaaGreat.Span Go.Proofs.YtmoeilkaadnnoaaGreat.Need
set_option linter.unusedVariables false
theorem texts_of (L : List ByteArray) : (L.map bytesOf).map encStr = tcs L := by
  rw [List.map_map]
  unfold tcs
  refine List.map_congr_left fun x _ => ?_
  simp [encStr, bytesOf]
end Go.Proofs.YtmoeilkaadnnoaaGreat.Mani
/-
  Contracts of the program's asked and fresh: the names of needs; those of some names that were not found yet, which are found from then on. Condition: lists and names of a length that may be walked.
-/
namespace Go.Proofs.YtmoeilkaadnnoaaGreat.Reach
open Go Go.RowKit Go.Lib Go.Proofs.YtmoeilkaadnnoaaGreat.Span Go.Proofs.YtmoeilkaadnnoaaGreat.Need Go.Proofs.YtmoeilkaadnnoaaGreat.Mani Go.Proofs.YtmoeilkaadnnoaaGreat.Wire Go.Proofs.YtmoeilkaadnnoaaGreat.Depot Go.Proofs.YtmoeilkaadnnoaaGreat.Index
set_option linter.unusedVariables false
def ShortN (l : List ByteArray) : Prop := ∀ x ∈ l, x.size ≤ 1000000000
abbrev OwnF (w : World) (b : Nat) (acc : List ByteArray) : Prop := w.ownsMap Tryz.prog 9 (unitElem (H := Unit)) b acc.length (setN acc)
def Freshes (w : World) (b : Nat) (acc l : List ByteArray) (e : Ending) (w' : World) : Prop :=
  ∃ v, e = .returned v ∧ w'.ownsRow w.heap.size 9 1 v (newF acc l).length (tcs (newF acc l)) ∧ OwnF w' b (acc ++ newF acc l) ∧ w.grownBy w' (some b)
end Go.Proofs.YtmoeilkaadnnoaaGreat.Reach
/-
  The contract of the program's Names, over whatever tells what is known (an index, or nil): what may be needed. Condition: as many names as may be walked.
-/
namespace Go.Proofs.YtmoeilkaadnnoaaGreat.Reach
open Go Go.RowKit Go.Lib Go.Sort Go.Proofs.YtmoeilkaadnnoaaGreat.Span Go.Proofs.YtmoeilkaadnnoaaGreat.Need Go.Proofs.YtmoeilkaadnnoaaGreat.Mani Go.Proofs.YtmoeilkaadnnoaaGreat.Wire Go.Proofs.YtmoeilkaadnnoaaGreat.Depot Go.Proofs.YtmoeilkaadnnoaaGreat.Index
set_option linter.unusedVariables false
def TellsX (w : World) (pv : Value) (X : List Kn) : Prop := ∀ (nm : ByteArray) (wx : World), Below w.heap.size w wx → nm.size ≤ 1000000000 →
  Calls Tryz.prog 60 #[pv, .string nm] wx (Gots wx nm (getX X nm)) ∧
  Calls Tryz.prog 47 #[pv, .string nm] wx fun e w' => e = .returned (.bool (atX X nm).isSome) ∧ wx = w'
theorem TellsX.on {w w' : World} {pv : Value} {X : List Kn} (h : TellsX w pv X) (hb : Below w.heap.size w w') : TellsX w' pv X := fun nm wx hx hn => h nm wx (hb.trans (hx.mono hb.size)) hn
theorem tells_idx {w : World} {B g : Nat} {X : List Kn} (h : IdxB w B g X) (hf : FineX X) : TellsX w (.pointer (some ⟨g, 0, none⟩)) X := fun nm wx hx hn => by
  obtain ⟨_, mo, h2, _⟩ := h
  exact ⟨get_any g mo X nm wx (h2.below hx) hf hn, has_any g mo X nm wx (h2.below hx) hn⟩
end Go.Proofs.YtmoeilkaadnnoaaGreat.Reach
/-
  The chapter's example, as plain data: a needs b, which is not known. No condition.
-/
namespace Go.Proofs.YtmoeilkaadnnoaaGreat.Reach
open Go Go.RowKit Go.Lib Go.Sort Go.Proofs.YtmoeilkaadnnoaaGreat.Span Go.Proofs.YtmoeilkaadnnoaaGreat.Need Go.Proofs.YtmoeilkaadnnoaaGreat.Mani Go.Proofs.YtmoeilkaadnnoaaGreat.Wire Go.Proofs.YtmoeilkaadnnoaaGreat.Depot Go.Proofs.YtmoeilkaadnnoaaGreat.Index
open Go.Proofs.YtmoeilkaadnnoaaGreat.Vlq (enc hi_zero held)
open Go.Proofs.YtmoeilkaadnnoaaGreat.Label (runes fitL runes_step runes_end rn wd)
set_option linter.unusedVariables false
def exB : List UInt8 := [1, 97, 1, 0, 1, 1, 98, 0]
def exR : List Rl := [(0, [(str [98], [])])]
def exX : List Kn := [(str [97], (exR, true))]
def exN : List Nd := [(str [97], [(0, 1000000000)])]
theorem fit_two : fitL (runes (str [98]) 0) = true := by
  rw [runes_step _ _ (by decide), runes_end _ _ (by decide)]
  decide
theorem nlt_str (l m : List UInt8) : nlt (str l) (str m) = Op.bytesLess l m := by unfold nlt; rw [str_toList, str_toList]
theorem ne_ab : str [97] ≠ str [98] := by decide
end Go.Proofs.YtmoeilkaadnnoaaGreat.Reach
/-
  The chapter's example, as plain data: a 2.0.0 needs b below 2.0.0, of which there is 2.0.0 alone; a 1.0.0 needs nothing: what is found. No program.
-/
namespace Go.Proofs.YtmoeilkaadnnoaaGreat.Plain
open Go Go.RowKit Go.Lib Go.Sort Go.Proofs.YtmoeilkaadnnoaaGreat.Span Go.Proofs.YtmoeilkaadnnoaaGreat.Need Go.Proofs.YtmoeilkaadnnoaaGreat.Mani Go.Proofs.YtmoeilkaadnnoaaGreat.Wire Go.Proofs.YtmoeilkaadnnoaaGreat.Depot Go.Proofs.YtmoeilkaadnnoaaGreat.Index Go.Proofs.YtmoeilkaadnnoaaGreat.Reach Go.Proofs.YtmoeilkaadnnoaaGreat.Pick Go.Proofs.YtmoeilkaadnnoaaGreat.Fit
open Go.Proofs.YtmoeilkaadnnoaaGreat.Vlq (enc hi_zero held)
open Go.Proofs.YtmoeilkaadnnoaaGreat.Label (runes fitL runes_step runes_end rn wd)
set_option linter.unusedVariables false
def pxA : List UInt8 := [1, 97, 2, 4, 0, 8, 1, 1, 98, 1, 0, 8]
def pxB : List UInt8 := [1, 98, 1, 8, 0]
def pxRA : List Rl := [(4, []), (8, [(str [98], [(0, 8)])])]
def pxRB : List Rl := [(8, [])]
def pxY : List Kn := [(str [97], (pxRA, true))]
def pxX : List Kn := [(str [97], (pxRA, true)), (str [98], (pxRB, true))]
def pxN : List Nd := [(str [97], allS), (str [98], allS)]
theorem px_less : nlt ByteArray.empty (str [97]) = true ∧ nlt ByteArray.empty (str [98]) = true ∧ nlt (str [97]) (str [98]) = true := by
  rw [show ByteArray.empty = str [] from rfl, nlt_str, nlt_str, nlt_str]
  decide
theorem px_need : okS [(str [98], ([(0, 8)] : List S))] = true := by
  unfold okS
  rw [show okFrom ByteArray.empty [(str [98], ([(0, 8)] : List S))] = ((fitL (runes (str [98]) 0) && nlt ByteArray.empty (str [98]) && (isSet (-1) [((0 : Int), (8 : Int))] && decide (([((0 : Int), (8 : Int))] : List S).length ≤ 6))) && true) from rfl, fit_two, px_less.2.1]
  decide
theorem px_root : okS pxN = true := by
  unfold okS
  rw [show okFrom ByteArray.empty pxN = ((fitL (runes (str [97]) 0) && nlt ByteArray.empty (str [97]) && (isSet (-1) allS && decide (allS.length ≤ 6))) && ((fitL (runes (str [98]) 0) && nlt (str [97]) (str [98]) && (isSet (-1) allS && decide (allS.length ≤ 6))) && true)) from rfl, fit_one, fit_two, px_less.1, px_less.2.2]
  decide
theorem px_okA : okM (str [97]) pxRA = true := by
  unfold okM pxRA
  rw [fit_one, show okR (-1) [(4, []), (8, [(str [98], ([(0, 8)] : List S))])] = ((decide ((-1 : Int) < 4) && (decide ((4 : Int) < 1000000000) && okS [])) && ((decide ((4 : Int) < 8) && (decide ((8 : Int) < 1000000000) && okS [(str [98], ([(0, 8)] : List S))])) && true)) from rfl, px_need]
  decide
theorem px_okB : okM (str [98]) pxRB = true := by
  unfold okM pxRB
  rw [fit_two]
  decide
theorem enc_small {k : Nat} (h : k < 128) : enc k = [UInt8.ofNat k] := by
  unfold enc
  rw [Nat.div_eq_of_lt h, Nat.mod_eq_of_lt h, hi_zero]; rfl
theorem encN_small {z : Int} {k : Nat} (hz : z = (k : Int)) (h : k < 128) : encN z = [UInt8.ofNat k] := by
  subst hz
  unfold encN
  rw [show held (k : Int) = k by unfold held; omega]
  exact enc_small h
theorem text_a : textB (str [97]) = [1, 97] := by
  unfold textB
  rw [show (str [97]).size = 1 from rfl, enc_small (by omega)]
  rfl
theorem text_b : textB (str [98]) = [1, 98] := by
  unfold textB
  rw [show (str [98]).size = 1 from rfl, enc_small (by omega)]
  rfl
theorem px_putA : putB (str [97]) pxRA = pxA := by
  unfold putB
  rw [if_pos px_okA]
  have hs : manB (str [97]) pxRA = textB (str [97]) ++ (encN 2 ++ ((encN 4 ++ encN 0) ++ (encN 8 ++ (encN 1 ++ (textB (str [98]) ++ (encN 1 ++ (encN 0 ++ encN 8))))))) := by
    simp [manB, listB, relB, needB, spanB, pxRA, flat]
  rw [hs, text_a, text_b, encN_small (z := 2) (k := 2) rfl (by omega), encN_small (z := 4) (k := 4) rfl (by omega), encN_small (z := 0) (k := 0) rfl (by omega), encN_small (z := 8) (k := 8) rfl (by omega), encN_small (z := 1) (k := 1) rfl (by omega)]
  rfl
theorem px_putB : putB (str [98]) pxRB = pxB := by
  unfold putB
  rw [if_pos px_okB]
  have hs : manB (str [98]) pxRB = textB (str [98]) ++ (encN 1 ++ (encN 8 ++ encN 0)) := by
    simp [manB, listB, relB, pxRB, flat]
  rw [hs, text_b, encN_small (z := 1) (k := 1) rfl (by omega), encN_small (z := 8) (k := 8) rfl (by omega), encN_small (z := 0) (k := 0) rfl (by omega)]
  rfl
theorem px_goodA : goodE (str [97]) pxA = true ∧ relE (str [97]) pxA = pxRA := by rw [← px_putA]; exact good_put px_okA
theorem px_goodB : goodE (str [98]) pxB = true ∧ relE (str [98]) pxB = pxRB := by rw [← px_putB]; exact good_put px_okB
theorem px_errA : errX [] (str [97]) pxA = 0 := by
  rw [errX_zero]
  refine ⟨?_, rfl⟩
  unfold mayX
  rw [fit_one]
  decide
theorem px_errB : errX pxY (str [98]) pxB = 0 := by
  rw [errX_zero]
  refine ⟨?_, ?_⟩
  · unfold mayX
    rw [fit_two]
    decide
  · unfold pxY
    rw [atX, if_neg ne_ab]
    rfl
theorem px_putsA : putX [] (str [97]) pxA = pxY := by
  unfold putX
  rw [if_pos px_errA]
  unfold valX
  rw [px_goodA.1, px_goodA.2]
  rfl
theorem px_putsB : putX pxY (str [98]) pxB = pxX := by
  unfold putX
  rw [if_pos px_errB]
  unfold valX
  rw [px_goodB.1, px_goodB.2]
  unfold pxY
  have h : nlt (str [98]) (str [97]) = false := nlt_asymm px_less.2.2
  rw [insX_ge h]
  rfl
theorem px_atA : atX pxX (str [97]) = some (pxRA, true) := by unfold pxX; rw [atX, if_pos rfl]
theorem px_atB : atX pxX (str [98]) = some (pxRB, true) := by unfold pxX; rw [atX, if_neg ne_ab, atX, if_pos rfl]
theorem px_fine : FineX pxX := by
  intro q hq
  rcases List.mem_cons.1 hq with rfl | hq
  · refine ⟨by decide, fun p hp => ?_⟩
    rcases List.mem_cons.1 hp with rfl | hp
    · exact ⟨by decide, fun y hy => by cases hy⟩
    · rw [List.mem_singleton.1 hp]
      refine ⟨by decide, fun y hy => ?_⟩
      rw [List.mem_singleton.1 hy]
      decide
  · rw [List.mem_singleton.1 hq]
    refine ⟨by decide, fun p hp => ?_⟩
    rw [List.mem_singleton.1 hp]
    exact ⟨by decide, fun y hy => by cases hy⟩
theorem px_set : SetX pxX := by
  intro q hq r hr
  rcases List.mem_cons.1 hq with rfl | hq
  · rcases List.mem_cons.1 hr with rfl | hr
    · rfl
    · rw [List.mem_singleton.1 hr]; exact px_need
  · rw [List.mem_singleton.1 hq] at hr
    rw [List.mem_singleton.1 hr]
    rfl
theorem px_ver : VerX pxX := by
  intro q hq r hr
  rcases List.mem_cons.1 hq with rfl | hq
  · rcases List.mem_cons.1 hr with rfl | hr
    · decide
    · rw [List.mem_singleton.1 hr]; decide
  · rw [List.mem_singleton.1 hq] at hr
    rw [List.mem_singleton.1 hr]
    decide
theorem px_needs4 : needsX pxX (str [97]) 4 = [] := by unfold needsX relX getX; rw [px_atA]; rfl
theorem px_needs8 : needsX pxX (str [97]) 8 = [(str [98], [(0, 8)])] := by unfold needsX relX getX; rw [px_atA]; rfl
theorem px_needsB : needsX pxX (str [98]) 8 = [] := by unfold needsX relX getX; rw [px_atB]; rfl
theorem px_findA : findS pxN (str [97]) = some allS := by unfold pxN; rw [find_cons, if_pos rfl]
theorem px_findB : findS pxN (str [98]) = some allS := by unfold pxN; rw [find_cons, if_neg ne_ab, find_cons, if_pos rfl]
theorem px_asked {l : List Pk} {a : ByteArray} (ha : findS pxN a = some allS) {p : Int} (h0 : 0 ≤ p) (h1 : p < 1000000000) (hq : ∀ q ∈ l, ∀ x, findS (needsX pxX q.1 q.2) a = some x → has x p = true) : has (askedX pxX pxN l a) p = true := by
  refine (asked_has l a p).2 ⟨⟨h0, h1⟩, fun x hx => ?_, hq⟩
  rw [ha] at hx
  injection hx with hx
  rw [← hx]
  exact has_all.2 ⟨h0, h1⟩
theorem px_next0 : nextX pxX pxN [] = some (str [97]) := by kernel_rfl
theorem px_next8 : nextX pxX pxN [(str [97], 8)] = some (str [98]) := by kernel_rfl
theorem px_next4 : nextX pxX pxN [(str [97], 4)] = some (str [98]) := by kernel_rfl
theorem px_next48 : nextX pxX pxN [(str [97], 4), (str [98], 8)] = none := by kernel_rfl
theorem px_no4 (a : ByteArray) : ∀ q ∈ [((str [97], 4) : Pk)], ∀ x, findS (needsX pxX q.1 q.2) a = some x → False := fun q hq x hx => by
  rw [List.mem_singleton.1 hq, px_needs4] at hx
  cases hx
theorem px_no48 (a : ByteArray) : ∀ q ∈ [((str [97], 4) : Pk), (str [98], 8)], ∀ x, findS (needsX pxX q.1 q.2) a = some x → False := fun q hq x hx => by
  rcases List.mem_cons.1 hq with rfl | hq
  · rw [px_needs4] at hx; cases hx
  · rw [List.mem_singleton.1 hq, px_needsB] at hx
    cases hx
theorem px_dead8 : deadX pxX pxN [(str [97], 8)] = false := alive.2 fun p hp => by
  rw [List.mem_singleton.1 hp]
  refine px_asked px_findA (by decide) (by decide) fun q hq x hx => ?_
  rw [List.mem_singleton.1 hq, px_needs8, find_cons, if_neg (fun e => ne_ab e.symm)] at hx
  cases hx
theorem px_dead4 : deadX pxX pxN [(str [97], 4)] = false := alive.2 fun p hp => by
  rw [List.mem_singleton.1 hp]
  exact px_asked px_findA (by decide) (by decide) fun q hq x hx => (px_no4 _ q hq x hx).elim
theorem px_dead48 : deadX pxX pxN [(str [97], 4), (str [98], 8)] = false := alive.2 fun p hp => by
  rcases List.mem_cons.1 hp with rfl | hp
  · exact px_asked px_findA (by decide) (by decide) fun q hq x hx => (px_no48 _ q hq x hx).elim
  · rw [List.mem_singleton.1 hp]
    exact px_asked px_findB (by decide) (by decide) fun q hq x hx => (px_no48 _ q hq x hx).elim
theorem px_down0 : downS pxRA (askedX pxX pxN [] (str [97])) = [8, 4] := by
  have h4 : has (askedX pxX pxN [] (str [97])) 4 = true := px_asked px_findA (by decide) (by decide) fun q hq => by cases hq
  have h8 : has (askedX pxX pxN [] (str [97])) 8 = true := px_asked px_findA (by decide) (by decide) fun q hq => by cases hq
  unfold pxRA
  simp [downS, h4, h8]
theorem px_down8 : downS pxRB (askedX pxX pxN [(str [97], 8)] (str [98])) = [] := by
  have h8 : has (askedX pxX pxN [(str [97], 8)] (str [98])) 8 = false := by
    cases e : has (askedX pxX pxN [(str [97], 8)] (str [98])) 8 with
    | false => rfl
    | true =>
      have h := ((asked_has _ _ _).1 e).2.2 (str [97], 8) (by simp) [(0, 8)] (by rw [px_needs8, find_cons, if_pos rfl])
      exact absurd h (by decide)
  unfold pxRB
  simp [downS, h8]
theorem px_down4 : downS pxRB (askedX pxX pxN [(str [97], 4)] (str [98])) = [8] := by
  have h8 : has (askedX pxX pxN [(str [97], 4)] (str [98])) 8 = true := px_asked px_findB (by decide) (by decide) fun q hq x hx => (px_no4 _ q hq x hx).elim
  unfold pxRB
  simp [downS, h8]
theorem px_put8 : putP [] (str [97], 8) = [(str [97], 8)] := rfl
theorem px_put4 : putP [] (str [97], 4) = [(str [97], 4)] := rfl
theorem px_put48 : putP [(str [97], 4)] (str [98], 8) = [(str [97], 4), (str [98], 8)] := by kernel_rfl
theorem px_on : onX pxX pxN 10 9 [] = (.found [(str [97], 4), (str [98], 8)], 6) := by
  rw [on_old (g := 9) rfl px_next0 px_atA, px_down0]
  have hB : onX pxX pxN 9 8 [(str [97], 8)] = (.nothing, 8) := by rw [on_old (g := 8) px_dead8 px_next8 px_atB, px_down8]; rfl
  have hD : onX pxX pxN 8 6 [(str [97], 4), (str [98], 8)] = (.found [(str [97], 4), (str [98], 8)], 6) := on_done (g := 7) px_dead48 px_next48
  have hC : onX pxX pxN 9 7 [(str [97], 4)] = (.found [(str [97], 4), (str [98], 8)], 6) := by
    rw [on_old (g := 8) px_dead4 px_next4 px_atB, px_down4, triesX, if_neg (by decide)]
    show (match onX pxX pxN 8 6 (putP [(str [97], 4)] (str [98], 8)) with
      | (.nothing, f') => triesX (onX pxX pxN 8) _ [] f'
      | r => r) = _
    rw [px_put48, hD]
  rw [triesX, if_neg (by decide)]
  show (match onX pxX pxN 9 8 (putP [] (str [97], 8)) with
    | (.nothing, f') => triesX (onX pxX pxN 9) _ [4] f'
    | r => r) = _
  rw [px_put8, hB]
  show triesX (onX pxX pxN 9) (fun v => putP [] (str [97], v)) [4] 8 = _
  rw [triesX, if_neg (by decide)]
  show (match onX pxX pxN 9 7 (putP [] (str [97], 4)) with
    | (.nothing, f') => triesX (onX pxX pxN 9) _ [] f'
    | r => r) = _
  rw [px_put4, hC]
theorem px_solve : solveX pxX pxN 9 = .found [(str [97], 4), (str [98], 8)] := by
  unfold solveX
  have h1 : (pxN.find? fun q : Nd => (atX pxX q.1).isNone) = none := rfl
  have h2 : (pxN.find? fun q : Nd => !(getX pxX q.1).2) = none := rfl
  rw [h1, h2]
  show (onX pxX pxN 10 9 []).1 = _
  rw [px_on]
end Go.Proofs.YtmoeilkaadnnoaaGreat.Plain

/-
  Some texts of this claim, one behind the other: FitSpec, PlainSpec, PlainEx. Contracts of the functions that the names say, and their mathematics. Conditions: each theorem's premises.
-/
import Derived.Test.YtmoeilkaadnnoaaGreatZ39
import Derived.Test.YtmoeilkaadnnoaaGreatZ19
import Derived.Test.YtmoeilkaadnnoaaGreatZ13
import Derived.Test.YtmoeilkaadnnoaaGreatZ11
import Derived.Test.YtmoeilkaadnnoaaGreatZ38
import Derived.Test.YtmoeilkaadnnoaaGreatZ16
namespace Go.Proofs.YtmoeilkaadnnoaaGreat.Fit
open Go Go.RowKit Go.Lib Go.Proofs.YtmoeilkaadnnoaaGreat.Span Go.Proofs.YtmoeilkaadnnoaaGreat.Need Go.Proofs.YtmoeilkaadnnoaaGreat.Mani Go.Proofs.YtmoeilkaadnnoaaGreat.Wire Go.Proofs.YtmoeilkaadnnoaaGreat.Depot Go.Proofs.YtmoeilkaadnnoaaGreat.Index Go.Proofs.YtmoeilkaadnnoaaGreat.Reach Go.Proofs.YtmoeilkaadnnoaaGreat.Pick
open Go.Proofs.YtmoeilkaadnnoaaGreat.Ver (Units)
set_option linter.unusedVariables false
abbrev IsP (pv : Value) : Prop := ∃ o : Option Addr, pv = .pointer o
def AskedF (X : List Kn) (root : List Nd) (l : List Pk) (pv : Value) (A : Option Addr) (n : Nat) (Al : Option Addr) (nl cl : Nat) (w : World) : Prop :=
  (IsP pv ∧ TellsX w pv X) ∧ FineX X ∧ SetX X ∧ X.length ≤ 100 ∧ NdOn w A n root ∧ n ≤ 40 ∧ okS root = true ∧ (∀ q ∈ root, q.1.size ≤ 100) ∧ PkOn w Al nl l ∧ nl ≤ cl ∧ nl ≤ 60 ∧ (∀ q ∈ l, q.1.size ≤ 200) ∧ Units w
theorem AskedF.on {X : List Kn} {root : List Nd} {l : List Pk} {pv : Value} {A : Option Addr} {n : Nat} {Al : Option Addr} {nl cl : Nat} {w w' : World} (h : AskedF X root l pv A n Al nl cl w) (hb : Below w.heap.size w w') : AskedF X root l pv A n Al nl cl w' := by
  obtain ⟨h1, h2, h3, h4, h5, h6, h7, h8, h9, h10, h11, h12, h13⟩ := h
  exact ⟨⟨h1.1, h1.2.on hb⟩, h2, h3, h4, h5.on hb, h6, h7, h8, h9.on hb, h10, h11, h12, h13.below hb⟩
end Go.Proofs.YtmoeilkaadnnoaaGreat.Fit
namespace Go.Proofs.YtmoeilkaadnnoaaGreat.Plain
open Go Go.RowKit Go.Lib Go.Proofs.YtmoeilkaadnnoaaGreat.Span Go.Proofs.YtmoeilkaadnnoaaGreat.Need Go.Proofs.YtmoeilkaadnnoaaGreat.Mani Go.Proofs.YtmoeilkaadnnoaaGreat.Wire Go.Proofs.YtmoeilkaadnnoaaGreat.Depot Go.Proofs.YtmoeilkaadnnoaaGreat.Index Go.Proofs.YtmoeilkaadnnoaaGreat.Reach Go.Proofs.YtmoeilkaadnnoaaGreat.Pick Go.Proofs.YtmoeilkaadnnoaaGreat.Fit
set_option linter.unusedVariables false
def kindT : Plain.Told → Int
  | .found _ => 1
  | .nothing => 2
  | .lacks _ => 3
  | .broken _ => 4
  | .spent => 5
def nameT : Plain.Told → ByteArray
  | .lacks a => a
  | .broken a => a
  | _ => ByteArray.empty
def picksT : Plain.Told → List Pk
  | .found l => l
  | _ => []
def Solves (w : World) (t : Plain.Told) (e : Ending) (w' : World) : Prop := ∃ A n c, e = .returned (.tuple #[.slice A n c, .int .i64 (kindT t), .string (nameT t)]) ∧ NewP w' 0 A n c (picksT t) ∧ Below w.heap.size w w'
def AskedP (X : List Kn) (root : List Nd) (pv : Value) (A : Option Addr) (n : Nat) (w : World) : Prop :=
  (IsP pv ∧ TellsX w pv X) ∧ FineX X ∧ SetX X ∧ VerX X ∧ X.length ≤ 100 ∧ NdOn w A n root ∧ n ≤ 40 ∧ okS root = true ∧ ∀ q ∈ root, q.1.size ≤ 100
theorem AskedP.on {X : List Kn} {root : List Nd} {pv : Value} {A : Option Addr} {n : Nat} {w w' : World} (h : AskedP X root pv A n w) (hb : Below w.heap.size w w') : AskedP X root pv A n w' := by
  obtain ⟨h1, h2, h3, h4, h5, h6, h7, h8, h9⟩ := h
  exact ⟨⟨h1.1, h1.2.on hb⟩, h2, h3, h4, h5, h6.on hb, h7, h8, h9⟩
def AskedPk (X : List Kn) (root : List Nd) (l : List Pk) (pv : Value) (A : Option Addr) (n : Nat) (Al : Option Addr) (nl cl : Nat) (w : World) : Prop :=
  AskedP X root pv A n w ∧ PkOn w Al nl l ∧ nl ≤ cl ∧ nl ≤ 60 ∧ (∀ q ∈ l, q.1.size ≤ 200) ∧ okP l = true
theorem AskedPk.on {X : List Kn} {root : List Nd} {l : List Pk} {pv : Value} {A : Option Addr} {n : Nat} {Al : Option Addr} {nl cl : Nat} {w w' : World} (h : AskedPk X root l pv A n Al nl cl w) (hb : Below w.heap.size w w') : AskedPk X root l pv A n Al nl cl w' :=
  ⟨h.1.on hb, h.2.1.on hb, h.2.2⟩
def SpecSolve : Prop := ∀ (X : List Kn) (root : List Nd) (fuel : Int) (pv : Value) (A : Option Addr) (n c : Nat) (w : World), AskedP X root pv A n w → -9223372036854775808 ≤ fuel → fuel ≤ 2000 →
  Calls Tryz.prog 9 #[pv, .slice A n c, .int .i64 fuel] w (Solves w (solveX X root fuel.toNat))
def SpecAsked : Prop := ∀ (X : List Kn) (root : List Nd) (l : List Pk) (nm : ByteArray) (pv : Value) (A : Option Addr) (n c : Nat) (Al : Option Addr) (nl cl : Nat) (w : World), AskedPk X root l pv A n Al nl cl w → nm.size ≤ 200 →
  Calls Tryz.prog 19 #[pv, .slice A n c, .slice Al nl cl, .string nm] w (Makes w (askedX X root l nm))
def SpecNext : Prop := ∀ (X : List Kn) (root : List Nd) (l : List Pk) (pv : Value) (A : Option Addr) (n c : Nat) (Al : Option Addr) (nl cl : Nat) (w : World), AskedPk X root l pv A n Al nl cl w →
  Calls Tryz.prog 16 #[pv, .slice A n c, .slice Al nl cl] w (Tells w (.tuple #[.string ((nextX X root l).getD ByteArray.empty), .bool (nextX X root l).isSome]))
end Go.Proofs.YtmoeilkaadnnoaaGreat.Plain
namespace Go.Proofs.YtmoeilkaadnnoaaGreat.Plain
open Go Go.RowKit Go.Lib Go.Sort Go.Proofs.YtmoeilkaadnnoaaGreat.Span Go.Proofs.YtmoeilkaadnnoaaGreat.Need Go.Proofs.YtmoeilkaadnnoaaGreat.Mani Go.Proofs.YtmoeilkaadnnoaaGreat.Wire Go.Proofs.YtmoeilkaadnnoaaGreat.Depot Go.Proofs.YtmoeilkaadnnoaaGreat.Index Go.Proofs.YtmoeilkaadnnoaaGreat.Reach Go.Proofs.YtmoeilkaadnnoaaGreat.Pick Go.Proofs.YtmoeilkaadnnoaaGreat.Fit
open Go.Proofs.YtmoeilkaadnnoaaGreat.Vlq (enc hi_zero held)
open Go.Proofs.YtmoeilkaadnnoaaGreat.Label (runes fitL runes_step runes_end rn wd)
set_option linter.unusedVariables false
def pxA : List UInt8 := [1, 97, 2, 4, 0, 8, 1, 1, 98, 1, 0, 8]
def pxB : List UInt8 := [1, 98, 1, 8, 0]
def pxRA : List Rl := [(4, []), (8, [(str [98], [(0, 8)])])]
def pxRB : List Rl := [(8, [])]
def pxY : List Kn := [(str [97], (pxRA, true))]
def pxX : List Kn := [(str [97], (pxRA, true)), (str [98], (pxRB, true))]
def pxN : List Nd := [(str [97], allS), (str [98], allS)]
theorem px_less : nlt ByteArray.empty (str [97]) = true ∧ nlt ByteArray.empty (str [98]) = true ∧ nlt (str [97]) (str [98]) = true := by
  rw [show ByteArray.empty = str [] from rfl, nlt_str, nlt_str, nlt_str]
  decide
theorem px_need : okS [(str [98], ([(0, 8)] : List S))] = true := by
  unfold okS
  rw [show okFrom ByteArray.empty [(str [98], ([(0, 8)] : List S))] = ((fitL (runes (str [98]) 0) && nlt ByteArray.empty (str [98]) && (isSet (-1) [((0 : Int), (8 : Int))] && decide (([((0 : Int), (8 : Int))] : List S).length ≤ 6))) && true) from rfl, fit_two, px_less.2.1]
  decide
theorem px_root : okS pxN = true := by
  unfold okS
  rw [show okFrom ByteArray.empty pxN = ((fitL (runes (str [97]) 0) && nlt ByteArray.empty (str [97]) && (isSet (-1) allS && decide (allS.length ≤ 6))) && ((fitL (runes (str [98]) 0) && nlt (str [97]) (str [98]) && (isSet (-1) allS && decide (allS.length ≤ 6))) && true)) from rfl, fit_one, fit_two, px_less.1, px_less.2.2]
  decide
theorem px_okA : okM (str [97]) pxRA = true := by
  unfold okM pxRA
  rw [fit_one, show okR (-1) [(4, []), (8, [(str [98], ([(0, 8)] : List S))])] = ((decide ((-1 : Int) < 4) && (decide ((4 : Int) < 1000000000) && okS [])) && ((decide ((4 : Int) < 8) && (decide ((8 : Int) < 1000000000) && okS [(str [98], ([(0, 8)] : List S))])) && true)) from rfl, px_need]
  decide
theorem px_okB : okM (str [98]) pxRB = true := by
  unfold okM pxRB
  rw [fit_two]
  decide
theorem enc_small {k : Nat} (h : k < 128) : enc k = [UInt8.ofNat k] := by
  unfold enc
  rw [Nat.div_eq_of_lt h, Nat.mod_eq_of_lt h, hi_zero]; rfl
theorem encN_small {z : Int} {k : Nat} (hz : z = (k : Int)) (h : k < 128) : encN z = [UInt8.ofNat k] := by
  subst hz
  unfold encN
  rw [show held (k : Int) = k by unfold held; omega]
  exact enc_small h
theorem text_a : textB (str [97]) = [1, 97] := by
  unfold textB
  rw [show (str [97]).size = 1 from rfl, enc_small (by omega)]
  rfl
theorem text_b : textB (str [98]) = [1, 98] := by
  unfold textB
  rw [show (str [98]).size = 1 from rfl, enc_small (by omega)]
  rfl
theorem px_putA : putB (str [97]) pxRA = pxA := by
  unfold putB
  rw [if_pos px_okA]
  have hs : manB (str [97]) pxRA = textB (str [97]) ++ (encN 2 ++ ((encN 4 ++ encN 0) ++ (encN 8 ++ (encN 1 ++ (textB (str [98]) ++ (encN 1 ++ (encN 0 ++ encN 8))))))) := by
    simp [manB, listB, relB, needB, spanB, pxRA, flat]
  rw [hs, text_a, text_b, encN_small (z := 2) (k := 2) rfl (by omega), encN_small (z := 4) (k := 4) rfl (by omega), encN_small (z := 0) (k := 0) rfl (by omega), encN_small (z := 8) (k := 8) rfl (by omega), encN_small (z := 1) (k := 1) rfl (by omega)]
  rfl
theorem px_putB : putB (str [98]) pxRB = pxB := by
  unfold putB
  rw [if_pos px_okB]
  have hs : manB (str [98]) pxRB = textB (str [98]) ++ (encN 1 ++ (encN 8 ++ encN 0)) := by
    simp [manB, listB, relB, pxRB, flat]
  rw [hs, text_b, encN_small (z := 1) (k := 1) rfl (by omega), encN_small (z := 8) (k := 8) rfl (by omega), encN_small (z := 0) (k := 0) rfl (by omega)]
  rfl
theorem px_goodA : goodE (str [97]) pxA = true ∧ relE (str [97]) pxA = pxRA := by rw [← px_putA]; exact good_put px_okA
theorem px_goodB : goodE (str [98]) pxB = true ∧ relE (str [98]) pxB = pxRB := by rw [← px_putB]; exact good_put px_okB
theorem px_errA : errX [] (str [97]) pxA = 0 := by
  rw [errX_zero]
  refine ⟨?_, rfl⟩
  unfold mayX
  rw [fit_one]
  decide
theorem px_errB : errX pxY (str [98]) pxB = 0 := by
  rw [errX_zero]
  refine ⟨?_, ?_⟩
  · unfold mayX
    rw [fit_two]
    decide
  · unfold pxY
    rw [atX, if_neg ne_ab]
    rfl
theorem px_putsA : putX [] (str [97]) pxA = pxY := by
  unfold putX
  rw [if_pos px_errA]
  unfold valX
  rw [px_goodA.1, px_goodA.2]
  rfl
theorem px_putsB : putX pxY (str [98]) pxB = pxX := by
  unfold putX
  rw [if_pos px_errB]
  unfold valX
  rw [px_goodB.1, px_goodB.2]
  unfold pxY
  have h : nlt (str [98]) (str [97]) = false := nlt_asymm px_less.2.2
  rw [insX_ge h]
  rfl
theorem px_atA : atX pxX (str [97]) = some (pxRA, true) := by unfold pxX; rw [atX, if_pos rfl]
theorem px_atB : atX pxX (str [98]) = some (pxRB, true) := by unfold pxX; rw [atX, if_neg ne_ab, atX, if_pos rfl]
theorem px_fine : FineX pxX := by
  intro q hq
  rcases List.mem_cons.1 hq with rfl | hq
  · refine ⟨by decide, fun p hp => ?_⟩
    rcases List.mem_cons.1 hp with rfl | hp
    · exact ⟨by decide, fun y hy => by cases hy⟩
    · rw [List.mem_singleton.1 hp]
      refine ⟨by decide, fun y hy => ?_⟩
      rw [List.mem_singleton.1 hy]
      decide
  · rw [List.mem_singleton.1 hq]
    refine ⟨by decide, fun p hp => ?_⟩
    rw [List.mem_singleton.1 hp]
    exact ⟨by decide, fun y hy => by cases hy⟩
theorem px_set : SetX pxX := by
  intro q hq r hr
  rcases List.mem_cons.1 hq with rfl | hq
  · rcases List.mem_cons.1 hr with rfl | hr
    · rfl
    · rw [List.mem_singleton.1 hr]; exact px_need
  · rw [List.mem_singleton.1 hq] at hr
    rw [List.mem_singleton.1 hr]
    rfl
theorem px_ver : VerX pxX := by
  intro q hq r hr
  rcases List.mem_cons.1 hq with rfl | hq
  · rcases List.mem_cons.1 hr with rfl | hr
    · decide
    · rw [List.mem_singleton.1 hr]; decide
  · rw [List.mem_singleton.1 hq] at hr
    rw [List.mem_singleton.1 hr]
    decide
theorem px_needs4 : needsX pxX (str [97]) 4 = [] := by unfold needsX relX getX; rw [px_atA]; rfl
theorem px_needs8 : needsX pxX (str [97]) 8 = [(str [98], [(0, 8)])] := by unfold needsX relX getX; rw [px_atA]; rfl
theorem px_needsB : needsX pxX (str [98]) 8 = [] := by unfold needsX relX getX; rw [px_atB]; rfl
theorem px_findA : findS pxN (str [97]) = some allS := by unfold pxN; rw [find_cons, if_pos rfl]
theorem px_findB : findS pxN (str [98]) = some allS := by unfold pxN; rw [find_cons, if_neg ne_ab, find_cons, if_pos rfl]
theorem px_asked {l : List Pk} {a : ByteArray} (ha : findS pxN a = some allS) {p : Int} (h0 : 0 ≤ p) (h1 : p < 1000000000) (hq : ∀ q ∈ l, ∀ x, findS (needsX pxX q.1 q.2) a = some x → has x p = true) : has (askedX pxX pxN l a) p = true := by
  refine (asked_has l a p).2 ⟨⟨h0, h1⟩, fun x hx => ?_, hq⟩
  rw [ha] at hx
  injection hx with hx
  rw [← hx]
  exact has_all.2 ⟨h0, h1⟩
theorem px_next0 : nextX pxX pxN [] = some (str [97]) := by kernel_rfl
theorem px_next8 : nextX pxX pxN [(str [97], 8)] = some (str [98]) := by kernel_rfl
theorem px_next4 : nextX pxX pxN [(str [97], 4)] = some (str [98]) := by kernel_rfl
theorem px_next48 : nextX pxX pxN [(str [97], 4), (str [98], 8)] = none := by kernel_rfl
theorem px_no4 (a : ByteArray) : ∀ q ∈ [((str [97], 4) : Pk)], ∀ x, findS (needsX pxX q.1 q.2) a = some x → False := fun q hq x hx => by
  rw [List.mem_singleton.1 hq, px_needs4] at hx
  cases hx
theorem px_no48 (a : ByteArray) : ∀ q ∈ [((str [97], 4) : Pk), (str [98], 8)], ∀ x, findS (needsX pxX q.1 q.2) a = some x → False := fun q hq x hx => by
  rcases List.mem_cons.1 hq with rfl | hq
  · rw [px_needs4] at hx; cases hx
  · rw [List.mem_singleton.1 hq, px_needsB] at hx
    cases hx
theorem px_dead8 : deadX pxX pxN [(str [97], 8)] = false := alive.2 fun p hp => by
  rw [List.mem_singleton.1 hp]
  refine px_asked px_findA (by decide) (by decide) fun q hq x hx => ?_
  rw [List.mem_singleton.1 hq, px_needs8, find_cons, if_neg (fun e => ne_ab e.symm)] at hx
  cases hx
theorem px_dead4 : deadX pxX pxN [(str [97], 4)] = false := alive.2 fun p hp => by
  rw [List.mem_singleton.1 hp]
  exact px_asked px_findA (by decide) (by decide) fun q hq x hx => (px_no4 _ q hq x hx).elim
theorem px_dead48 : deadX pxX pxN [(str [97], 4), (str [98], 8)] = false := alive.2 fun p hp => by
  rcases List.mem_cons.1 hp with rfl | hp
  · exact px_asked px_findA (by decide) (by decide) fun q hq x hx => (px_no48 _ q hq x hx).elim
  · rw [List.mem_singleton.1 hp]
    exact px_asked px_findB (by decide) (by decide) fun q hq x hx => (px_no48 _ q hq x hx).elim
theorem px_down0 : downS pxRA (askedX pxX pxN [] (str [97])) = [8, 4] := by
  have h4 : has (askedX pxX pxN [] (str [97])) 4 = true := px_asked px_findA (by decide) (by decide) fun q hq => by cases hq
  have h8 : has (askedX pxX pxN [] (str [97])) 8 = true := px_asked px_findA (by decide) (by decide) fun q hq => by cases hq
  unfold pxRA
  simp [downS, h4, h8]
theorem px_down8 : downS pxRB (askedX pxX pxN [(str [97], 8)] (str [98])) = [] := by
  have h8 : has (askedX pxX pxN [(str [97], 8)] (str [98])) 8 = false := by
    cases e : has (askedX pxX pxN [(str [97], 8)] (str [98])) 8 with
    | false => rfl
    | true =>
      have h := ((asked_has _ _ _).1 e).2.2 (str [97], 8) (by simp) [(0, 8)] (by rw [px_needs8, find_cons, if_pos rfl])
      exact absurd h (by decide)
  unfold pxRB
  simp [downS, h8]
theorem px_down4 : downS pxRB (askedX pxX pxN [(str [97], 4)] (str [98])) = [8] := by
  have h8 : has (askedX pxX pxN [(str [97], 4)] (str [98])) 8 = true := px_asked px_findB (by decide) (by decide) fun q hq x hx => (px_no4 _ q hq x hx).elim
  unfold pxRB
  simp [downS, h8]
theorem px_put8 : putP [] (str [97], 8) = [(str [97], 8)] := rfl
theorem px_put4 : putP [] (str [97], 4) = [(str [97], 4)] := rfl
theorem px_put48 : putP [(str [97], 4)] (str [98], 8) = [(str [97], 4), (str [98], 8)] := by kernel_rfl
theorem px_on : onX pxX pxN 10 9 [] = (.found [(str [97], 4), (str [98], 8)], 6) := by
  rw [on_old (g := 9) rfl px_next0 px_atA, px_down0]
  have hB : onX pxX pxN 9 8 [(str [97], 8)] = (.nothing, 8) := by rw [on_old (g := 8) px_dead8 px_next8 px_atB, px_down8]; rfl
  have hD : onX pxX pxN 8 6 [(str [97], 4), (str [98], 8)] = (.found [(str [97], 4), (str [98], 8)], 6) := on_done (g := 7) px_dead48 px_next48
  have hC : onX pxX pxN 9 7 [(str [97], 4)] = (.found [(str [97], 4), (str [98], 8)], 6) := by
    rw [on_old (g := 8) px_dead4 px_next4 px_atB, px_down4, triesX, if_neg (by decide)]
    show (match onX pxX pxN 8 6 (putP [(str [97], 4)] (str [98], 8)) with
      | (.nothing, f') => triesX (onX pxX pxN 8) _ [] f'
      | r => r) = _
    rw [px_put48, hD]
  rw [triesX, if_neg (by decide)]
  show (match onX pxX pxN 9 8 (putP [] (str [97], 8)) with
    | (.nothing, f') => triesX (onX pxX pxN 9) _ [4] f'
    | r => r) = _
  rw [px_put8, hB]
  show triesX (onX pxX pxN 9) (fun v => putP [] (str [97], v)) [4] 8 = _
  rw [triesX, if_neg (by decide)]
  show (match onX pxX pxN 9 7 (putP [] (str [97], 4)) with
    | (.nothing, f') => triesX (onX pxX pxN 9) _ [] f'
    | r => r) = _
  rw [px_put4, hC]
theorem px_solve : solveX pxX pxN 9 = .found [(str [97], 4), (str [98], 8)] := by
  unfold solveX
  have h1 : (pxN.find? fun q : Nd => (atX pxX q.1).isNone) = none := rfl
  have h2 : (pxN.find? fun q : Nd => !(getX pxX q.1).2) = none := rfl
  rw [h1, h2]
  show (onX pxX pxN 10 9 []).1 = _
  rw [px_on]
end Go.Proofs.YtmoeilkaadnnoaaGreat.Plain

/-
  Some texts of this claim, one behind the other: ManiNames, ReachFresh, ReachNames, ReachAwakeM. What each proves, and its condition, stands at its head.
-/
import Derived.Test.YtmoeilkaadnnoaaGreatZ16
import Derived.Shelf.SlIter.Nil
import Derived.Test.YtmoeilkaadnnoaaGreatZ1
import Derived.Test.YtmoeilkaadnnoaaGreatChecked
import Derived.Shelf.SortM.Plain
import Derived.Shelf.SortM.SortNone
import Derived.Sort.OwnSorted
import Derived.Test.YtmoeilkaadnnoaaGreatZ22
import Derived.Test.YtmoeilkaadnnoaaGreatZ12
import Derived.Maps.OwnSet
import Derived.Test.YtmoeilkaadnnoaaGreatZ33
import Derived.Test.YtmoeilkaadnnoaaGreatZ37
import Derived.Test.YtmoeilkaadnnoaaGreatZ31
/-
  The contract of Names: the names that a manifest's releases need, by way of a map and its sorted keys. Condition: lists of a length that may be walked.
-/
namespace Go.Proofs.YtmoeilkaadnnoaaGreat.Mani
open Go Go.RowKit Go.Lib Go.Proofs.YtmoeilkaadnnoaaGreat.Span Go.Proofs.YtmoeilkaadnnoaaGreat.Need
set_option linter.unusedVariables false
theorem key_of (x : ByteArray) (h : x.size ≤ maxLen) : keyOf Tryz.prog 9 (.string x) = some (.string (bytesOf x)) := by
  have hu := Tryz.underlying9
  simp [keyOf, hu, mapKey, bytesOf]
  exact h
theorem texts_of (L : List ByteArray) : (L.map bytesOf).map encStr = tcs L := by
  rw [List.map_map]
  unfold tcs
  refine List.map_congr_left fun x _ => ?_
  simp [encStr, bytesOf]
end Go.Proofs.YtmoeilkaadnnoaaGreat.Mani
/-
  Contracts of the program's asked and fresh: the names of needs; those of some names that were not found yet, which are found from then on. Condition: lists and names of a length that may be walked.
-/
namespace Go.Proofs.YtmoeilkaadnnoaaGreat.Reach
open Go Go.RowKit Go.Lib Go.Proofs.YtmoeilkaadnnoaaGreat.Span Go.Proofs.YtmoeilkaadnnoaaGreat.Need Go.Proofs.YtmoeilkaadnnoaaGreat.Mani Go.Proofs.YtmoeilkaadnnoaaGreat.Wire Go.Proofs.YtmoeilkaadnnoaaGreat.Depot Go.Proofs.YtmoeilkaadnnoaaGreat.Index
set_option linter.unusedVariables false
def ShortN (l : List ByteArray) : Prop := ∀ x ∈ l, x.size ≤ 1000000000
theorem zero_unit (w : World) : (zeroValue 129).run Tryz.prog w = .ok (.agg #[]) w := by kernel_rfl
theorem has_of_in {acc : List ByteArray} {x : ByteArray} (h : x ∈ acc) : Maps.has (setN acc) (.string (bytesOf x)) = true := (has_setN acc _).2 ⟨x, h, rfl⟩
theorem has_of_not {acc : List ByteArray} {x : ByteArray} (h : x ∉ acc) : Maps.has (setN acc) (.string (bytesOf x)) = false := by
  cases g : Maps.has (setN acc) (.string (bytesOf x)) with
  | false => rfl
  | true =>
    obtain ⟨y, hy, e⟩ := (has_setN acc _).1 g
    exact absurd (bytesOf_inj e ▸ hy) h
abbrev OwnF (w : World) (b : Nat) (acc : List ByteArray) : Prop := w.ownsMap Tryz.prog 9 (unitElem (H := Unit)) b acc.length (setN acc)
theorem ne_map {w : World} {P : Program} {k : TypeId} {R : Value → Option (DataW Unit × List MemPlace)} {b n : Nat} {D : DataW Unit} {p : Addr} {u : Value} (hM : w.ownsMap P k R b n D) (hc : w.cell? p = some u) : p.block ≠ b := by
  rintro rfl
  obtain ⟨es, clock, hb, _⟩ := hM
  simp [World.cell?, hb] at hc
theorem farT_set {w : World} {P : Program} {k : TypeId} {R : Value → Option (DataW Unit × List MemPlace)} {b n : Nat} {D : DataW Unit} (T : TypeId) (h : w.ownsMap P k R b n D) : FarT w T (some b) := by
  obtain ⟨es, clock, hb, _⟩ := h
  intro b' cur m h e
  injection e with e
  subst e
  rw [hb] at h
  cases h
def Freshes (w : World) (b : Nat) (acc l : List ByteArray) (e : Ending) (w' : World) : Prop :=
  ∃ v, e = .returned v ∧ w'.ownsRow w.heap.size 9 1 v (newF acc l).length (tcs (newF acc l)) ∧ OwnF w' b (acc ++ newF acc l) ∧ w.grownBy w' (some b)
end Go.Proofs.YtmoeilkaadnnoaaGreat.Reach
/-
  The contract of the program's Names, over whatever tells what is known (an index, or nil): what may be needed. Condition: as many names as may be walked.
-/
namespace Go.Proofs.YtmoeilkaadnnoaaGreat.Reach
open Go Go.RowKit Go.Lib Go.Sort Go.Proofs.YtmoeilkaadnnoaaGreat.Span Go.Proofs.YtmoeilkaadnnoaaGreat.Need Go.Proofs.YtmoeilkaadnnoaaGreat.Mani Go.Proofs.YtmoeilkaadnnoaaGreat.Wire Go.Proofs.YtmoeilkaadnnoaaGreat.Depot Go.Proofs.YtmoeilkaadnnoaaGreat.Index
set_option linter.unusedVariables false
theorem slice3 (A : Option Addr) (n c k N : Nat) (w : World) (h1 : k ≤ N) (h2 : N ≤ c) (i : TypeInfo) (hi : Tryz.prog.info? 9 = some i) (hz : i.size = 1) :
    (Instr.slice 70 (.slice A n c) (some (.int .i64 (k : Int))) (some (.int .i64 (N : Int))) (some (.int .i64 (N : Int)))).run Tryz.prog w = .ok (.slice (if N = k then A else A.map (·.add (k * 1))) (N - k) (N - k)) w := by
  have s0 : (0 : Int) ≤ (k : Int) := by omega
  have s1 : (k : Int) ≤ (N : Int) := by omega
  have s2 : (N : Int) ≤ (c : Int) := by omega
  have s3 : (0 : Int) ≤ (N : Int) := by omega
  simp [Instr.slice, run_underlying Tryz.underlying70, Instr.sliceBounds, run_sliceBound, sizeOf, typeInfo, hi, hz, s0, s1, s2, s3]
def TellsX (w : World) (pv : Value) (X : List Kn) : Prop := ∀ (nm : ByteArray) (wx : World), Below w.heap.size w wx → nm.size ≤ 1000000000 →
  Calls Tryz.prog 60 #[pv, .string nm] wx (Gots wx nm (getX X nm)) ∧
  Calls Tryz.prog 47 #[pv, .string nm] wx fun e w' => e = .returned (.bool (atX X nm).isSome) ∧ wx = w'
theorem TellsX.on {w w' : World} {pv : Value} {X : List Kn} (h : TellsX w pv X) (hb : Below w.heap.size w w') : TellsX w' pv X := fun nm wx hx hn => h nm wx (hb.trans (hx.mono hb.size)) hn
theorem tells_nil (w : World) : TellsX w (.pointer none) [] := fun nm wx _ hn => ⟨get_nil nm wx hn, has_nil nm wx⟩
theorem tells_idx {w : World} {B g : Nat} {X : List Kn} (h : IdxB w B g X) (hf : FineX X) : TellsX w (.pointer (some ⟨g, 0, none⟩)) X := fun nm wx hx hn => by
  obtain ⟨_, mo, h2, _⟩ := h
  exact ⟨get_any g mo X nm wx (h2.below hx) hf hn, has_any g mo X nm wx (h2.below hx) hn⟩
theorem tcs_drop (l : List ByteArray) (k : Nat) : (tcs l).drop k = tcs (l.drop k) := by simp [tcs]
end Go.Proofs.YtmoeilkaadnnoaaGreat.Reach
/-
  The chapter's example, as plain data: a needs b, which is not known. No condition.
-/
namespace Go.Proofs.YtmoeilkaadnnoaaGreat.Reach
open Go Go.RowKit Go.Lib Go.Sort Go.Proofs.YtmoeilkaadnnoaaGreat.Span Go.Proofs.YtmoeilkaadnnoaaGreat.Need Go.Proofs.YtmoeilkaadnnoaaGreat.Mani Go.Proofs.YtmoeilkaadnnoaaGreat.Wire Go.Proofs.YtmoeilkaadnnoaaGreat.Depot Go.Proofs.YtmoeilkaadnnoaaGreat.Index
open Go.Proofs.YtmoeilkaadnnoaaGreat.Vlq (enc hi_zero held)
open Go.Proofs.YtmoeilkaadnnoaaGreat.Label (runes fitL runes_step runes_end rn wd)
set_option linter.unusedVariables false
def exB : List UInt8 := [1, 97, 1, 0, 1, 1, 98, 0]
def exR : List Rl := [(0, [(str [98], [])])]
def exX : List Kn := [(str [97], (exR, true))]
def exN : List Nd := [(str [97], [(0, 1000000000)])]
theorem fit_two : fitL (runes (str [98]) 0) = true := by
  rw [runes_step _ _ (by decide), runes_end _ _ (by decide)]
  decide
theorem nlt_str (l m : List UInt8) : nlt (str l) (str m) = Op.bytesLess l m := by unfold nlt; rw [str_toList, str_toList]
theorem ok_ex : okM (str [97]) exR = true := by
  have h1 : nlt ByteArray.empty (str [98]) = true := by
    rw [show ByteArray.empty = str [] from rfl, nlt_str]
    decide
  have h2 : okS [(str [98], ([] : List S))] = true := by
    unfold okS
    rw [show okFrom ByteArray.empty [(str [98], ([] : List S))] = ((fitL (runes (str [98]) 0) && nlt ByteArray.empty (str [98]) && (isSet (-1) ([] : List S) && decide (([] : List S).length ≤ 6))) && true) from rfl, fit_two, h1]
    decide
  unfold okM exR
  rw [fit_one, show okR (-1) [(0, [(str [98], ([] : List S))])] = ((decide ((-1 : Int) < 0) && (decide ((0 : Int) < 1000000000) && okS [(str [98], ([] : List S))])) && true) from rfl, h2]
  decide
theorem put_ex : putB (str [97]) exR = exB := by
  unfold putB
  rw [if_pos ok_ex]
  have e0 : held 0 = 0 := by decide
  have e00 : held 1 = 1 := by decide
  have e1 : encN 0 = [0] := by unfold encN; rw [e0]; unfold enc; rw [show 0 / 128 = 0 from rfl, hi_zero]; rfl
  have e11 : encN 1 = [1] := by unfold encN; rw [e00]; unfold enc; rw [show 1 / 128 = 0 from rfl, hi_zero]; rfl
  have e2 : enc 1 = [1] := by unfold enc; rw [show 1 / 128 = 0 from rfl, hi_zero]; rfl
  have e3 : textB (str [97]) = [1, 97] := by
    unfold textB
    rw [show (str [97]).size = 1 from rfl, e2]
    rfl
  have e4 : textB (str [98]) = [1, 98] := by
    unfold textB
    rw [show (str [98]).size = 1 from rfl, e2]
    rfl
  simp only [manB, exR, listB, flat_one, flat_nil, relB, needB, e3, e4, List.length_singleton, List.length_nil, show ((1 : Nat) : Int) = 1 from rfl, show ((0 : Nat) : Int) = 0 from rfl, e1, e11]
  rfl
theorem good_ex : goodE (str [97]) exB = true ∧ relE (str [97]) exB = exR := by rw [← put_ex]; exact good_put ok_ex
theorem err_ex : errX [] (str [97]) exB = 0 := by
  rw [errX_zero]
  refine ⟨?_, rfl⟩
  unfold mayX
  rw [fit_one]
  decide
theorem puts_ex : putX [] (str [97]) exB = exX := by
  unfold putX
  rw [if_pos err_ex]
  unfold valX
  rw [good_ex.1, good_ex.2]
  rfl
theorem ne_ab : str [97] ≠ str [98] := by decide
theorem at_a : atX exX (str [97]) = some (exR, true) := by unfold exX; rw [atX, if_pos rfl]
theorem at_b : atX exX (str [98]) = none := by unfold exX; rw [atX, if_neg ne_ab]; rfl
theorem fine_ex : FineX exX := by
  intro q hq
  rw [List.mem_singleton.1 hq]
  refine ⟨by decide, fun p hp => ?_⟩
  rw [List.mem_singleton.1 hp]
  refine ⟨by decide, fun y hy => ?_⟩
  rw [List.mem_singleton.1 hy]
  exact ⟨by decide, by decide⟩
theorem asks_a : asksX exX (str [97]) = [str [98]] := by
  unfold asksX getX
  rw [at_a]
  rfl
theorem asks_b : asksX exX (str [98]) = [] := by
  unfold asksX getX
  rw [at_b]
  rfl
theorem reach_ex : reachX exX exN = [str [97], str [98]] := by
  refine (reachX_of ⟨?_, fun z => ⟨fun hz => ?_, fun hz => ?_⟩⟩).symm
  · refine List.pairwise_cons.2 ⟨fun z hz => ?_, List.pairwise_singleton _ _⟩
    rw [List.mem_singleton.1 hz, nlt_str]
    decide
  · have ha : May exX exN (str [97]) := .root (by simp [namesS, exN])
    rcases List.mem_cons.1 hz with rfl | hz
    · exact ha
    · rw [List.mem_singleton.1 hz]
      exact .ask ha (by rw [asks_a]; simp)
  · induction hz with
    | root hr =>
      simp [namesS, exN] at hr
      simp [hr]
    | @ask a b _ hk ih =>
      rcases List.mem_cons.1 ih with e | e
      · rw [e, asks_a] at hk
        rw [List.mem_singleton.1 hk]
        simp
      · rw [List.mem_singleton.1 e, asks_b] at hk
        cases hk
theorem miss_ex : missX exX exN = [str [98]] := by
  unfold missX
  rw [reach_ex]
  simp [List.filter, at_a, at_b]
end Go.Proofs.YtmoeilkaadnnoaaGreat.Reach

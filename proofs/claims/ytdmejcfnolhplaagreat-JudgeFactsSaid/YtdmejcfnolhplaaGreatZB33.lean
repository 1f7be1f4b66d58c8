/-
  Some texts of this claim, one behind the other: IndexNames, IndexClone, IndexStaysW. What each proves, and its condition, stands at its head.
-/
import Derived.Test.YtdmejcfnolhplaaGreatZB32
import Derived.Test.YtdmejcfnolhplaaGreatZB4
import Derived.Test.YtdmejcfnolhplaaGreatZB16
import Derived.Shelf.SlMaps.Clone
import Derived.Maps.RangeWalk
import Derived.Sort.KeysCollected
import Derived.Test.YtdmejcfnolhplaaGreatZB31
import Derived.Test.YtdmejcfnolhplaaGreatZB19
import Derived.Test.YtdmejcfnolhplaaGreatZB14
import Derived.Shelf.Abstract
import Derived.Test.YtdmejcfnolhplaaGreatZB11
import Derived.Test.YtdmejcfnolhplaaGreatZB9
import Derived.Deep.RegionHeld3
import Derived.Test.YtdmejcfnolhplaaGreatZB28
import Derived.Test.YtdmejcfnolhplaaGreatZB29
/-
  Contracts of the program's Names, Clone and Of: the names that are known, rising; an index that knows the same; one into which entries were put. Condition: names and lists of a length that may be walked.
-/
namespace Go.Proofs.YtdmejcfnolhplaaGreat.Index
open Go Go.RowKit Go.Lib Go.Maps Go.Sort Go.Shelf Go.Proofs.YtdmejcfnolhplaaGreat.Span Go.Proofs.YtdmejcfnolhplaaGreat.Need Go.Proofs.YtdmejcfnolhplaaGreat.Mani Go.Proofs.YtdmejcfnolhplaaGreat.Wire Go.Proofs.YtdmejcfnolhplaaGreat.Depot Go.Proofs.YtdmejcfnolhplaaGreat.MapV
set_option linter.unusedVariables false
def ShortX (l : List Kn) : Prop := ∀ q ∈ l, q.1.size ≤ 1000000000
theorem ShortX.nil : ShortX [] := fun q hq => by cases hq
theorem ShortX.put {l : List Kn} (h : ShortX l) {nm : ByteArray} (hnm : nm.size ≤ 1000000000) (b : List UInt8) : ShortX (putX l nm b) := by
  unfold putX
  split
  · intro q hq
    rcases (insX_mem _ _).1 hq with rfl | hq
    · exact hnm
    · exact h q hq
  · exact h
end Go.Proofs.YtdmejcfnolhplaaGreat.Index
/-
  Contracts of the program's Clone and Of, and of Names at nil: an index that knows the same; one into which entries were put. Condition: names and lists of a length that may be walked.
-/
namespace Go.Proofs.YtdmejcfnolhplaaGreat.Index
open Go Go.RowKit Go.Lib Go.Maps Go.Sort Go.Shelf Go.Proofs.YtdmejcfnolhplaaGreat.Span Go.Proofs.YtdmejcfnolhplaaGreat.Need Go.Proofs.YtdmejcfnolhplaaGreat.Mani Go.Proofs.YtdmejcfnolhplaaGreat.Wire Go.Proofs.YtdmejcfnolhplaaGreat.Depot Go.Proofs.YtdmejcfnolhplaaGreat.MapV
set_option linter.unusedVariables false
theorem puts_short {l : List Kn} (h : ShortX l) (es : List En) (he : ∀ e ∈ es, e.1.size ≤ 1000000000) : ShortX (putsX l es) := by
  induction es generalizing l with
  | nil => exact h
  | cons e t ih => exact ih (h.put (he e (by simp)) e.2) fun x hx => he x (by simp [hx])
def IdxB (w : World) (B g : Nat) (l : List Kn) : Prop := B ≤ g ∧ ∃ mo, Idx w g mo l ∧ ∀ b, mo = some b → B ≤ b
theorem IdxB.row {g B : Nat} {mo : Option Nat} (hg : B ≤ g) (hm : ∀ b, mo = some b → B ≤ b) : B ≤ rowX g mo := by
  cases mo with
  | none => exact hg
  | some b => exact hm b rfl
theorem IdxB.below {w w' : World} {B g : Nat} {l : List Kn} (h : IdxB w B g l) (hb : Below w.heap.size w w') : IdxB w' B g l := by
  obtain ⟨h1, mo, h2, h3⟩ := h
  exact ⟨h1, mo, h2.below hb, h3⟩
theorem IdxB.lt {w : World} {B g : Nat} {l : List Kn} (h : IdxB w B g l) : g < w.heap.size := by
  obtain ⟨_, mo, h2, _⟩ := h
  exact h2.lt
theorem IdxB.le {w : World} {B g : Nat} {l : List Kn} (h : IdxB w B g l) : B ≤ w.heap.size := Nat.le_trans h.1 (Nat.le_of_lt h.lt)
theorem putB_any (g : Nat) (l : List Kn) (nm : ByteArray) (bd : List UInt8) (A : Option Addr) (n c B : Nat) (w : World) (h : IdxB w B g l) (hl : RisesK l) (hlen : l.length ≤ 100000) (hr : Reads w B 1 A n (bcs bd)) (hnm : nm.size ≤ 1000000000) :
    Calls Tryz.prog 27 #[.pointer (some ⟨g, 0, none⟩), .string nm, .slice A n c] w fun e w' =>
      e = .returned (.int .i64 (errX l nm bd)) ∧ IdxB w' B g (putX l nm bd) ∧ Below B w w' := by
  have hle := h.le
  obtain ⟨h1, mo, h2, h3⟩ := h
  refine (put_any g mo l nm bd A n c B w h2 hl hlen hr (IdxB.row h1 h3) hnm).mono ?_
  rintro e w' ⟨he, ⟨mo', h4, h5⟩, hg⟩
  refine ⟨he, ⟨h1, mo', h4, fun b hb => ?_⟩, (Below.refl _ _).grown hg hle (fun k hk => by injection hk with hk; rw [← hk]; exact IdxB.row h1 h3)⟩
  rcases h5 with rfl | ⟨_, b', e2, h6⟩
  · exact h3 b hb
  · rw [hb] at e2
    injection e2 with e2
    rw [e2]; exact Nat.le_trans hle h6
set_option maxHeartbeats 4000000 in
set_option maxRecDepth 100000 in
theorem indexOf_any (l : List En) (A : Option Addr) (n c : Nat) (w : World) (h : EnOn w A n l) (hn : n ≤ 100000) (hl : ∀ e ∈ l, e.1.size ≤ 1000000000) :
    Calls Tryz.prog 10 #[.slice A n c] w fun e w' => ∃ g, e = .returned (.pointer (some ⟨g, 0, none⟩)) ∧ IdxB w' w.heap.size g (putsX [] l) ∧ Below w.heap.size w w' := by
  have HN := hide (new_any w)
  have Hlen := hide h.len
  go_enter Tryz.func10, Tryz.ntmps10
  go_wp2_with (first
    | (go_at_call 26
       refine HN.out.mono ?_
       rintro e w1 ⟨rfl, hI1, hb1⟩))
  go_loopw [9] (fun v wr => ∃ (i : Nat), i ≤ n ∧ v = .int .i64 (i : Int) ∧ IdxB wr w.heap.size w.heap.size (putsX [] (l.take i)) ∧ Below w.heap.size w wr) (fun v _ => n - (RowKit.intOf v).toNat)
  case atStart => exact ⟨0, by omega, rfl, ⟨Nat.le_refl _, none, hI1, fun b e => by cases e⟩, hb1⟩
  case round =>
    obtain ⟨i, hi, rfl, hI, hb⟩ := hrel
    have hbs := hb.size
    clear hI1 hb1
    by_cases hlt : i < n
    · obtain ⟨ad, q, A', n', c', rfl, hbl, hx, hs, c1, c2⟩ := PIn.at_ (EnIn.below h hb) hlt
      have hnm := hl q (List.mem_of_getElem? hx)
      have hst := putsX_take (l := []) hx
      have hrise := putsX_rises (l := []) List.Pairwise.nil (l.take i)
      have hplen := putsX_len [] (l.take i)
      have htl : (l.take i).length ≤ i := by rw [List.length_take]; omega
      have hpl : (putsX [] (l.take i)).length ≤ 100000 := by
        have e0 : ([] : List Kn).length = 0 := rfl
        omega
      obtain ⟨x, s⟩ := q
      simp only [] at c1 c2 hnm hst
      have hrd : Reads wr w.heap.size 1 A' n' (bcs s) := hs
      have HP := hide (fun (wx : World) (hx : Below wr.heap.size wr wx) => putB_any w.heap.size _ x s A' n' c' w.heap.size wx (hI.below hx) hrise hpl (hrd.below (hx.mono hbs)) hnm)
      have Hst := hide hst
      clear hst hrise hplen htl hpl hx hs hrd hI hnm
      generalize putsX [] (l.take i) = X at *
      go_wp2_with (first
        | (go_at_call 27
           refine (HP.out _ (alloc_b _)).mono ?_
           rintro e w2 ⟨rfl, hI2, hb2⟩))
      have hbw : Below w.heap.size w w2 := (hb.alloc hbs _).trans hb2
      go_roundw
      case rel => exact ⟨i + 1, by omega, by go_num, by rw [Hst.out]; exact hI2, hbw⟩
      case measure => simp [RowKit.intOf]; omega
    · have hi2 : i = n := by omega
      subst hi2
      rw [List.take_of_length_le (by rw [Hlen.out]; exact Nat.le_refl _)] at hI
      go_wp2
      go_ret
      exact ⟨w.heap.size, rfl, hI, hb⟩
end Go.Proofs.YtdmejcfnolhplaaGreat.Index
/-
  The walk of IndexStays. Condition: the slice reads as entries; lengths as a row bounds them.
-/
namespace Go.Proofs.YtdmejcfnolhplaaGreat.Index
open Go Go.RowKit Go.Lib Go.Proofs.YtdmejcfnolhplaaGreat.Span Go.Proofs.YtdmejcfnolhplaaGreat.Need Go.Proofs.YtdmejcfnolhplaaGreat.Mani Go.Proofs.YtdmejcfnolhplaaGreat.Wire Go.Proofs.YtdmejcfnolhplaaGreat.Depot
set_option linter.unusedVariables false
/-! Contracts at an index whose blocks lie at B or behind. -/
section
variable {g B : Nat} {l : List Kn} {w : World}
end
theorem take_bounds (l : List En) (i : Nat) (h30 : l.length ≤ 30) (hs : ∀ q ∈ l, q.1.size ≤ 200 ∧ q.2.length ≤ 9000) :
    RisesK (putsX [] (l.take i)) ∧ FineX (putsX [] (l.take i)) ∧ ShortX (putsX [] (l.take i)) ∧ (putsX [] (l.take i)).length ≤ 30 := by
  refine ⟨putsX_rises List.Pairwise.nil _, FineX.nil.puts _, puts_short ShortX.nil _ fun e he => by have := hs e (List.mem_of_mem_take he); omega, ?_⟩
  have h1 := putsX_len [] (l.take i)
  have h2 : (l.take i).length ≤ l.length := by rw [List.length_take]; omega
  have h3 : ([] : List Kn).length = 0 := rfl
  omega
end Go.Proofs.YtdmejcfnolhplaaGreat.Index

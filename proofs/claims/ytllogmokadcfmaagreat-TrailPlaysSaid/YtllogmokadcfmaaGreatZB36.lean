/-
  Some texts of this claim, one behind the other: ClashSpec. What each proves, and its condition, stands at its head.
-/
import Derived.Test.YtllogmokadcfmaaGreatZB34
import Derived.Test.YtllogmokadcfmaaGreatZB35
/-
  What the program's functions of clashes have to tell, one sentence each, as premises; the statements' Large. Condition: none of its own.
-/
namespace Go.Proofs.YtllogmokadcfmaaGreat.Clash
open Go.Proofs.YtllogmokadcfmaaGreat.Pick (Pk PkOn getP)
open Go Go.RowKit Go.Lib Go.Proofs.YtllogmokadcfmaaGreat.Span Go.Proofs.YtllogmokadcfmaaGreat.Need Go.Proofs.YtllogmokadcfmaaGreat.Grow Go.Proofs.YtllogmokadcfmaaGreat.Term
open Go.Proofs.YtllogmokadcfmaaGreat.Label (runes fitL)
set_option linter.unusedVariables false
def FineC (l : List Tm) : Prop := l.length ≤ 1000 ∧ sumC l ≤ 10000 ∧ ∀ t ∈ l, t.name.size ≤ 1000000000
theorem FineC.fine {l : List Tm} (h : FineC l) : FineT l := fun t ht => ⟨h.2.2 t ht, by have := sumC_mem ht; have := h.2.1; omega⟩
def largeC (l : List Tm) : Bool := decide (40 < l.length) || l.any largeT
theorem smallC {l : List Tm} (h : largeC l = false) : l.length ≤ 40 ∧ (∀ t ∈ l, t.set.length ≤ 60 ∧ t.name.size ≤ 200) ∧ sumC l ≤ 2400 ∧ FineC l := by
  unfold largeC at h
  rw [Bool.or_eq_false_iff, decide_eq_false_iff_not, List.any_eq_false] at h
  obtain ⟨h1, h2⟩ := h
  have h3 : ∀ t ∈ l, t.set.length ≤ 60 ∧ t.name.size ≤ 200 := fun t ht => small_of (by simpa using h2 t ht)
  have h4 : sumC l ≤ 60 * l.length := sumC_le fun t ht => (h3 t ht).1
  have h5 : sumC l ≤ 2400 := by omega
  exact ⟨by omega, h3, h5, by omega, by omega, fun t ht => by have := (h3 t ht).2; omega⟩
theorem any_drop {l : List Tm} {t : Tm} {i : Nat} (h : l[i]? = some t) : (l.drop i).any largeT = (largeT t || (l.drop (i + 1)).any largeT) := by
  obtain ⟨hi, e⟩ := List.getElem?_eq_some_iff.1 h
  rw [List.drop_eq_getElem_cons hi, e]
  rfl
set_option maxHeartbeats 4000000 in
set_option maxRecDepth 100000 in
theorem largeC_any (l : List Tm) (A : Option Addr) (n c : Nat) (w : World) (h : TmOn w A n l) (hn : n ≤ 9223372036854775807) (hl : ∀ t ∈ l, t.name.size ≤ 9223372036854775807 ∧ t.set.length ≤ 9223372036854775807) :
    Calls Tryz.prog 5 #[.slice A n c] w fun e w' => e = .returned (.bool (largeC l)) ∧ Below w.heap.size w w' := by
  have hlen := hide h.len
  by_cases h40 : 40 < n
  · have e : largeC l = true := by unfold largeC; rw [decide_eq_true (by have := hlen.out; omega)]; rfl
    have h40z : (40 : Int) < (n : Int) := by omega
    rw [e]
    go_enter Tryz.func5, Tryz.ntmps5
    go_wp2
    go_ret
    exact ⟨rfl, Below.refl _ _⟩
  · have e : largeC l = l.any largeT := by unfold largeC; rw [decide_eq_false (by have := hlen.out; omega)]; rfl
    have h40z : ¬ (40 : Int) < (n : Int) := by omega
    rw [e]
    have Hd := hide (fun i t => @any_drop l t i)
    have Hend : Hid ((l.drop n).any largeT = false) := hide (by rw [List.drop_of_length_le (by have := hlen.out; omega)]; rfl)
    obtain ⟨F, hF⟩ : ∃ F, F = l.any largeT := ⟨_, rfl⟩
    rw [← hF]
    have HF : Hid (F = (l.drop 0).any largeT) := hide hF
    clear hF e
    go_enter Tryz.func5, Tryz.ntmps5
    go_wp2
    go_loopw [3] (fun v wr => ∃ i : Nat, i ≤ n ∧ v = .int .i64 (i : Int) ∧ Hid (F = (l.drop i).any largeT) ∧ Below w.heap.size w wr) (fun v _ => n - (RowKit.intOf v).toNat)
    case atStart => exact ⟨0, by omega, rfl, HF, Below.refl _ _⟩
    case round =>
      obtain ⟨i, hi, rfl, hf, hb⟩ := hrel
      have hbs := hb.size
      by_cases hlt : i < n
      · obtain ⟨ad, t, A1, n1, c1, rfl, hbl, hx, hs, p1, p2, p3⟩ := TmIn.at_ (TmIn.below h hb) hlt
        obtain ⟨g1, g2⟩ := hl t (List.mem_of_getElem? hx)
        have hsl := hs.1
        have hd := hf.out.trans (Hd.out i t hx)
        have HL := hide (largeT_any t.name t.set t.none A1 n1 c1 wr (hs.more hbs) (by omega) g1)
        unfold Tells at HL
        rw [show largeT ⟨t.name, t.set, t.none⟩ = largeT t from rfl] at HL
        clear hx hs g1 g2 hsl hf Hd Hend HF h hl
        generalize largeT t = y at *
        cases y with
        | true =>
          have e : Hid (F = true) := hide (by rw [hd]; rfl)
          clear hd
          go_wp2_with (first
            | (go_at_call 24
               refine HL.out.mono ?_
               rintro e w1 ⟨rfl, hb1⟩))
          go_ret
          exact ⟨by rw [e.out]; rfl, hb.trans (hb1.mono hbs)⟩
        | false =>
          have e : Hid (F = (l.drop (i + 1)).any largeT) := hide (by rw [hd]; rfl)
          clear hd
          go_wp2_with (first
            | (go_at_call 24
               refine HL.out.mono ?_
               rintro e w1 ⟨rfl, hb1⟩))
          go_roundw
          case rel => exact ⟨i + 1, by omega, by go_num, e, hb.trans (hb1.mono hbs)⟩
          case measure => simp [RowKit.intOf]; omega
      · have hi2 : i = n := by omega
        have e : Hid (F = false) := hide (by rw [hf.out, hi2]; exact Hend.out)
        clear hf HF Hd Hend h
        go_wp2
        go_ret
        exact ⟨by rw [e.out]; rfl, hb⟩
end Go.Proofs.YtllogmokadcfmaaGreat.Clash

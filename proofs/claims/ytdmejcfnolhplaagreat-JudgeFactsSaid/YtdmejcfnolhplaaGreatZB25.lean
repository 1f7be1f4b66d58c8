/-
  Some texts of this claim, one behind the other: PickGet. What each proves, and its condition, stands at its head.
-/
import Derived.Test.YtdmejcfnolhplaaGreatZB17
import Derived.Test.YtdmejcfnolhplaaGreatZB22
import Derived.ScopeJumps
import Derived.WalkMore
import Derived.Lib.Hide
/-
  The contracts of Get, a name's version, and of the statements' Large. Condition: the names rise; no more than 1,000,000 picks.
-/
namespace Go.Proofs.YtdmejcfnolhplaaGreat.Pick
open Go Go.RowKit Go.Lib Go.Proofs.YtdmejcfnolhplaaGreat.Need
set_option linter.unusedVariables false
def bigP (q : Pk) : Bool := decide (200 < q.1.size)
def largeP (l : List Pk) : Bool := decide (60 < l.length) || l.any bigP
theorem bigP_drop {l : List Pk} {i : Nat} {q : Pk} (h : l[i]? = some q) : (l.drop i).any bigP = (bigP q || (l.drop (i + 1)).any bigP) := by
  obtain ⟨hi, e⟩ := List.getElem?_eq_some_iff.1 h
  rw [List.drop_eq_getElem_cons hi, e]
  rfl
theorem largeP_no {l : List Pk} (h : largeP l = false) : l.length ≤ 60 ∧ ∀ q ∈ l, q.1.size ≤ 200 := by
  unfold largeP at h
  simp only [Bool.or_eq_false_iff, decide_eq_false_iff_not, List.any_eq_false, bigP, decide_eq_true_eq] at h
  exact ⟨by omega, fun q hq => by have := h.2 q hq; omega⟩
set_option maxHeartbeats 2000000 in
theorem largeP_any (l : List Pk) (A : Option Addr) (n c : Nat) (w : World) (h : PkOn w A n l) (hn : n ≤ 9223372036854775807) :
    Calls Tryz.prog 19 #[.slice A n c] w fun e w' => e = .returned (.bool (largeP l)) ∧ w' = w := by
  have hlen := h.len
  have e : largeP l = (decide (60 < n) || l.any bigP) := by unfold largeP; rw [hlen]
  have Hl := hide e
  have Hd := hide (fun i q => @bigP_drop l i q)
  clear e
  generalize largeP l = L at *
  obtain ⟨F, hF⟩ : ∃ F, F = l.any bigP := ⟨_, rfl⟩
  rw [← hF] at Hl
  have HF := hide hF
  have Hlen := hide hlen
  clear hF hlen
  by_cases h6 : 60 < n
  · have e : Hid (L = true) := hide (by rw [Hl.out, decide_eq_true h6]; rfl)
    have h6z : (60 : Int) < (n : Int) := by omega
    clear Hl
    go_enter Tryz.func19, Tryz.ntmps19
    go_wp2
    go_ret
    exact ⟨by rw [e.out]; rfl, rfl⟩
  · have e0 : Hid (L = F) := hide (by rw [Hl.out, decide_eq_false h6]; rfl)
    have h6z : ¬ (60 : Int) < (n : Int) := by omega
    clear Hl
    go_enter Tryz.func19, Tryz.ntmps19
    go_wp2
    go_loopw [3] (fun v wr => ∃ i : Nat, i ≤ n ∧ v = .int .i64 (i : Int) ∧ Hid (F = (l.drop i).any bigP) ∧ wr = w) (fun v _ => n - (RowKit.intOf v).toNat)
    case atStart => exact ⟨0, by omega, rfl, HF, rfl⟩
    case round =>
      obtain ⟨i, hi, rfl, hf, rfl⟩ := hrel
      by_cases hlt : i < n
      · obtain ⟨ad, q, rfl, hbl, hx, c1, c2⟩ := PkIn.at_ h hlt
        have hd := hf.out.trans (Hd.out i q hx)
        clear hx hf h
        by_cases hb : 200 < q.1.size
        · have e : Hid (F = true) := hide (by rw [hd]; unfold bigP; rw [decide_eq_true hb]; rfl)
          have hz : (200 : Int) < (q.1.size : Int) := by omega
          clear hd
          go_wp2
          go_ret
          exact ⟨by rw [e0.out, e.out]; rfl, rfl⟩
        · have e : Hid (F = (l.drop (i + 1)).any bigP) := hide (by rw [hd]; unfold bigP; rw [decide_eq_false hb]; rfl)
          have hz : ¬ (200 : Int) < (q.1.size : Int) := by omega
          clear hd
          go_wp2
          go_roundw
          case rel => exact ⟨i + 1, by omega, by go_num, e, by trivial⟩
          case measure => simp [RowKit.intOf]; omega
      · have e : Hid (F = false) := hide (by rw [hf.out, List.drop_of_length_le (by have := Hlen.out; omega)]; rfl)
        clear hf
        go_wp2
        go_ret
        exact ⟨by rw [e0.out, e.out]; rfl, rfl⟩
end Go.Proofs.YtdmejcfnolhplaaGreat.Pick

/-
  Some texts of this claim, one behind the other: VlqReadsM. What each proves, and its condition, stands at its head.
-/
import Derived.Test.YtdggnakjfcmnmaaZB12
import Derived.Test.YtdggnakjfcmnmaaZB11
import Derived.Test.YtdggnakjfcmnmaaZB10
import Derived.Test.YtdggnakjfcmnmaaChecked
import Derived.Deep.DeepMust
import Derived.Deep.RegionHeld3
/-
  How the program's reader and the document's go side by side, as plain mathematics and as memory. No condition.
-/
namespace Go.Proofs.Ytdggnakjfcmnmaa.Vlq
open Go.RowKit
set_option linter.unusedVariables false
def RdsIn (w : World) (B : Nat) (A : Option Addr) (n : Nat) (ps : List (Int × Int)) : Prop :=
  ps.length = n ∧ (0 < n → ∃ ad, A = some ad ∧ ad.block < B ∧ ∀ i p, ps[i]? = some p → w.cell? (ad.add (i * 2)) = some (.int .i64 p.1) ∧ w.cell? (ad.add (i * 2 + 1)) = some (.int .i64 p.2))
theorem add_field (ad : Addr) (k : Nat) : ad.add (k + 1) = ⟨(ad.add k).block, (ad.add k).off + 1, none⟩ := by
  unfold Addr.add
  by_cases h : k = 0 <;> simp [h, Nat.add_assoc]
theorem RdsIn.at_ {w : World} {B n k : Nat} {A : Option Addr} {ps : List (Int × Int)} (h : RdsIn w B A n ps) (hk : k < n) :
    ∃ ad x y, A = some ad ∧ ad.block < B ∧ w.cell? (ad.add (k * 2)) = some (.int .i64 x) ∧ w.cell? ⟨(ad.add (k * 2)).block, (ad.add (k * 2)).off + 1, none⟩ = some (.int .i64 y) := by
  obtain ⟨hl, h⟩ := h
  obtain ⟨ad, hA, hb, hc⟩ := h (by omega)
  have hp : ps[k]? = some ps[k] := by simp
  exact ⟨ad, ps[k].1, ps[k].2, hA, hb, (hc k _ hp).1, by rw [← add_field]; exact (hc k _ hp).2⟩
theorem RdsIn.below {w w' : World} {B n : Nat} {A : Option Addr} {ps : List (Int × Int)} (h : RdsIn w B A n ps) (hb : Below B w w') : RdsIn w' B A n ps :=
  ⟨h.1, fun hn => by
    obtain ⟨ad, hA, hbl, hc⟩ := h.2 hn
    refine ⟨ad, hA, hbl, fun i p hp => ?_⟩
    rw [hb.cell (by rw [block_of_add]; exact hbl), hb.cell (by rw [block_of_add]; exact hbl)]
    exact hc i p hp⟩
def Both (w : World) (g m : Nat) (L : List UInt8) (j : Nat) (e : Int) : Prop := RdV w g L j e ∧ RdM w m (L.drop j) e ∧ j ≤ L.length ∧ g < m
theorem numM_of (L : List UInt8) (j : Nat) (e most : Int) : numM (L.drop j) e most = ((numR L j e most).1, L.drop (numR L j e most).2.1, (numR L j e most).2.2) := by
  unfold numM numR
  split
  · rfl
  · simp [List.drop_drop]
theorem numR_le (L : List UInt8) (j : Nat) (e most : Int) (h : j ≤ L.length) : (numR L j e most).2.1 ≤ L.length := by
  unfold numR
  split
  · exact h
  · have := (look_le (L.drop j) most).1
    rw [List.length_drop] at this
    simp only; omega
theorem strM_of (L : List UInt8) (j : Nat) (e most : Int) (h : j ≤ L.length) : strM (L.drop j) e most = ((strR L j e most).1, L.drop (strR L j e most).2.1, (strR L j e most).2.2) := by
  unfold strM strR
  split
  · rfl
  · split
    · rfl
    · rw [List.length_drop]
      split
      · rfl
      · simp [List.drop_drop]
theorem strR_le (L : List UInt8) (j : Nat) (e most : Int) (h : j ≤ L.length) : (strR L j e most).2.1 ≤ L.length := by
  unfold strR
  split
  · exact h
  · split
    · exact h
    · split
      · exact h
      · have := (look_le (L.drop j) most).1
        rw [List.length_drop] at this
        simp only; omega
theorem Both.num {w w1 w2 : World} {g m : Nat} {L : List UInt8} {j : Nat} {e most : Int} (h : Both w g m L j e)
    (h1 : RdV w1 g L (numR L j e most).2.1 (numR L j e most).2.2) (hg1 : w.grownBy w1 (some g))
    (h2 : RdM w2 m (numM (L.drop j) e most).2.1 (numM (L.drop j) e most).2.2) (hg2 : w1.grownBy w2 (some m)) : Both w2 g m L (numR L j e most).2.1 (numR L j e most).2.2 := by
  rw [numM_of] at h2
  exact ⟨h1.grown hg2 (fun k hk => by injection hk with hk; have := h.2.2.2; omega), h2, numR_le L j e most h.2.2.1, h.2.2.2⟩
theorem Both.str {w w1 w2 : World} {g m : Nat} {L : List UInt8} {j : Nat} {e most : Int} (h : Both w g m L j e)
    (h1 : RdV w1 g L (strR L j e most).2.1 (strR L j e most).2.2) (hg1 : w.grownBy w1 (some g))
    (h2 : RdM w2 m (strM (L.drop j) e most).2.1 (strM (L.drop j) e most).2.2) (hg2 : w1.grownBy w2 (some m)) : Both w2 g m L (strR L j e most).2.1 (strR L j e most).2.2 := by
  rw [strM_of L j e most h.2.2.1] at h2
  exact ⟨h1.grown hg2 (fun k hk => by injection hk with hk; have := h.2.2.2; omega), h2, strR_le L j e most h.2.2.1, h.2.2.2⟩
theorem Both.bad {w w1 w2 : World} {g m : Nat} {L : List UInt8} {j : Nat} {e b : Int} (h : Both w g m L j e)
    (h1 : RdV w1 g L j (bad e b)) (hg1 : w.grownBy w1 (some g))
    (h2 : RdM w2 m (L.drop j) (bad e b)) (hg2 : w1.grownBy w2 (some m)) : Both w2 g m L j (bad e b) :=
  ⟨h1.grown hg2 (fun k hk => by injection hk with hk; have := h.2.2.2; omega), h2, h.2.2.1, h.2.2.2⟩
theorem Both.drewN {w : World} {g m : Nat} {L : List UInt8} {j : Nat} {e : Int} (h : Both w g m L j e) (n : Nat) : Both (w.drewN n) g m L j e := h
theorem Both.drew {w : World} {g m : Nat} {L : List UInt8} {j : Nat} {e : Int} (h : Both w g m L j e) : Both w.drew g m L j e := h
end Go.Proofs.Ytdggnakjfcmnmaa.Vlq

/-
  What a reader holds in memory, and the contracts of the program's Open, Err, Left, Close and Bad. Condition: no more than 2^40 bytes.
-/
import Derived.Test.YtbckpcofcgapdaaVlqLook
namespace Go.Proofs.Ytbckpcofcgapdaa.Vlq
open Go.RowKit
set_option linter.unusedVariables false
/-- The program's reader lies in block g: of the bytes l the first i were taken; its error is e. -/
def RdV (w : World) (g : Nat) (l : List UInt8) (i : Nat) (e : Int) : Prop :=
  ∃ A c, Blk w g 55 #[.slice A l.length c, .int .i64 (i : Int), .int .i64 e] ∧ Reads w g 1 A l.length (bcs l) ∧ i ≤ l.length ∧ l.length ≤ c ∧ l.length ≤ 1099511627776
theorem RdV.lt {w : World} {g : Nat} {l : List UInt8} {i : Nat} {e : Int} (h : RdV w g l i e) : g < w.heap.size := by
  obtain ⟨A, c, hb, _⟩ := h
  exact hb.lt
theorem RdV.below {w w' : World} {g B : Nat} {l : List UInt8} {i : Nat} {e : Int} (h : RdV w g l i e) (hb : Below B w w') (hg : g < B) : RdV w' g l i e := by
  obtain ⟨A, c, hk, hr, h3⟩ := h
  exact ⟨A, c, hk.below hb hg, hr.below (hb.mono (Nat.le_of_lt hg)), h3⟩
theorem RdV.grown {w w' : World} {g : Nat} {row : Option Nat} {l : List UInt8} {i : Nat} {e : Int} (h : RdV w g l i e) (hb : w.grownBy w' row) (hg : ∀ k, row = some k → g < k) : RdV w' g l i e := by
  have hlt := h.lt
  obtain ⟨A, c, hk, hr, h3⟩ := h
  exact ⟨A, c, hk.grown hb (fun e => by have := hg g e.symm; omega), hr.grown hb (Nat.le_of_lt hlt) (fun k hk => Nat.le_of_lt (hg k hk)), h3⟩
set_option maxHeartbeats 800000 in
set_option maxRecDepth 100000 in
theorem open_any (A : Option Addr) (n c : Nat) (l : List UInt8) (w : World) (hn : n ≤ 1099511627776) (h : Reads w w.heap.size 1 A n (bcs l)) :
   Calls Try.prog 12 #[.slice A n c] w fun e w' => ∃ g, e = .returned (.pointer (some ⟨g, 0, none⟩)) ∧ w.heap.size ≤ g ∧ RdV w' g l 0 0 ∧ Below w.heap.size w w' := by
  obtain ⟨i0, hi0, hz0, hz1, hz2⟩ := info_parts info_u8
  have hln : l.length = n := by have := h.1; rw [bcs_length] at this; omega
  subst hln
  have hmk := run_make_rowN (P := Try.prog) 22 5 i0 _ Try.underlying22 hi0 hz0 .i64 .i64 l.length l.length (Nat.le_refl _) (by rw [hz2]; omega) (by omega)
  rw [hz1] at hmk
  obtain ⟨M, HM⟩ : ∃ M, Hid (M = madeCells (Value.int .u8 0).cells (l.length * 1)) := ⟨_, hide rfl⟩
  rw [← HM.out] at hmk
  have HMl : Hid (M.toList.length = l.length) := hide (by rw [HM.out]; simp [size_madeCells])
  have HMs : Hid (M.size = l.length) := hide (by rw [HM.out]; simp [size_madeCells])
  have hr2 := h.alloc (Nat.le_refl _) (.cells M 5)
  go_enter Try.func12, Try.ntmps12
  go_wp2_with (first
    | (refine wpList_copy_whole (o := ⟨some 9, _, _, _, _, _⟩) rfl (.tmp 7) (.tmp 8) 22 22 rfl 5 Try.underlying22 info_u8' w.heap.size l.length _ _ A rfl rfl M 5
         (heap_alloc_new w _) HMs.out (bcs l) _ hr2 (bcs_one _) w.heap.size w ((Below.refl _ _).alloc (Nat.le_refl _) _) (Nat.le_refl _) ?_
       intro w2 hg2 hb2))
  have hsz : w.heap.size < w2.heap.size := by
    have h2 := hg2.out
    exact (Array.getElem?_eq_some_iff.1 h2).1
  go_ret
  refine ⟨_, rfl, by omega, ?_, hb2.alloc (Nat.le_of_lt hsz) _⟩
  refine ⟨_, _, Blk.new _ _ _, ⟨by rw [bcs_length]; omega, fun hp => ⟨_, rfl, by simpa using hsz, fun j u hu => ?_⟩⟩, Nat.zero_le _, Nat.le_refl _, hn⟩
  have hcell : Blk w2 w.heap.size 5 (bcs l).toArray := hg2.out
  have h3 := (hcell.alloc (.cells #[.slice (some ⟨w.heap.size, 0, none⟩) l.length l.length, .int .i64 0, .int .i64 0] 55)).cell j
  have hadd : (⟨w.heap.size, 0, none⟩ : Addr).add j = ⟨w.heap.size, j, none⟩ := by unfold Addr.add; split <;> simp_all
  rw [hadd]
  simpa [hu] using h3
end Go.Proofs.Ytbckpcofcgapdaa.Vlq

/-
  Some texts of this claim, one behind the other: VlqReader, VlqReader2, VlqReader3, VlqReader4, VlqRefRd, VlqBackM. What each proves, and its condition, stands at its head.
-/
import Derived.Test.YtdggnakjfcmnmaaZB10
import Derived.Test.YtdggnakjfcmnmaaZB11
import Derived.Test.YtdggnakjfcmnmaaChecked
import Derived.Laws.BitsAllLaws
import Derived.Laws.BitsLemmas
/-
  What a reader holds in memory, and the contracts of the program's Open, Err, Left, Close and Bad. Condition: no more than 2^40 bytes.
-/
namespace Go.Proofs.Ytdggnakjfcmnmaa.Vlq
open Go.RowKit
set_option linter.unusedVariables false
def RdV (w : World) (g : Nat) (l : List UInt8) (i : Nat) (e : Int) : Prop :=
  ∃ A c, Blk w g 76 #[.slice A l.length c, .int .i64 (i : Int), .int .i64 e] ∧ Reads w g 1 A l.length (bcs l) ∧ i ≤ l.length ∧ l.length ≤ c ∧ l.length ≤ 1099511627776
theorem RdV.lt {w : World} {g : Nat} {l : List UInt8} {i : Nat} {e : Int} (h : RdV w g l i e) : g < w.heap.size := by
  obtain ⟨A, c, hb, _⟩ := h
  exact hb.lt
theorem RdV.below {w w' : World} {g B : Nat} {l : List UInt8} {i : Nat} {e : Int} (h : RdV w g l i e) (hb : Below B w w') (hg : g < B) : RdV w' g l i e := by
  obtain ⟨A, c, hk, hr, h3⟩ := h
  exact ⟨A, c, hk.below hb hg, hr.below (hb.mono (Nat.le_of_lt hg)), h3⟩
theorem RdV.grown {w w' : World} {g : Nat} {row : Option Nat} {l : List UInt8} {i : Nat} {e : Int} (h : RdV w g l i e) (hb : w.grownBy w' row) (hg : ∀ k, row = some k → g < k) : RdV w' g l i e := by
  have hlt := h.lt
  obtain ⟨A, c, hk, hr, h3⟩ := h
  exact ⟨A, c, hk.grown hb (fun e => by have := hg g e.symm; omega), hr.grown hb (Nat.le_of_lt hlt) (fun k hk => Nat.le_of_lt (hg k hk)), h3⟩
end Go.Proofs.Ytdggnakjfcmnmaa.Vlq
/-
  The contracts of the program's Err, Left, Close and Bad, over a reader and over none. No condition beyond the reader's own.
-/
namespace Go.Proofs.Ytdggnakjfcmnmaa.Vlq
open Go.RowKit
set_option linter.unusedVariables false
theorem RdV.cells {w : World} {g : Nat} {l : List UInt8} {i : Nat} {e : Int} (h : RdV w g l i e) :
   ∃ A c, w.cell? ⟨g, 0, none⟩ = some (.slice A l.length c) ∧ w.cell? ⟨g, 1, none⟩ = some (.int .i64 (i : Int)) ∧ w.cell? ⟨g, 2, none⟩ = some (.int .i64 e) ∧ w.frozen? ⟨g, 1, none⟩ = false ∧ w.frozen? ⟨g, 2, none⟩ = false ∧
     Reads w g 1 A l.length (bcs l) ∧ i ≤ l.length ∧ l.length ≤ c ∧ l.length ≤ 1099511627776 := by
  obtain ⟨A, c, hk, hr, h3⟩ := h
  exact ⟨A, c, (hk.cell 0).trans rfl, (hk.cell 1).trans rfl, (hk.cell 2).trans rfl, hk.frozen 1, hk.frozen 2, hr, h3⟩
theorem RdV.setErr {w : World} {g : Nat} {l : List UInt8} {i : Nat} {e : Int} (h : RdV w g l i e) (e' : Int) : RdV (w.setCell ⟨g, 2, none⟩ (.int .i64 e')) g l i e' := by
  obtain ⟨A, c, hk, hr, h3⟩ := h
  exact ⟨A, c, hk.set_ 2 _, hr.setCell (Nat.le_refl _) _, h3⟩
theorem RdV.drewN {w : World} {g : Nat} {l : List UInt8} {i : Nat} {e : Int} (h : RdV w g l i e) (n : Nat) : RdV (w.drewN n) g l i e := h
def closed (l : List UInt8) (i : Nat) (e : Int) : Int := if e ≠ 0 then e else if i < l.length then 3 else 0
def bad (e b : Int) : Int := if e = 0 then b else e
end Go.Proofs.Ytdggnakjfcmnmaa.Vlq
/-
  The contracts of the program's Num and Str, over a reader and over none. No condition beyond the reader's own.
-/
namespace Go.Proofs.Ytdggnakjfcmnmaa.Vlq
open Go.RowKit
set_option linter.unusedVariables false
def numR (l : List UInt8) (i : Nat) (er most : Int) : Int × Nat × Int :=
  if er ≠ 0 then (0, i, er) else ((look (l.drop i) most).1, i + (look (l.drop i) most).2.1, (look (l.drop i) most).2.2)
end Go.Proofs.Ytdggnakjfcmnmaa.Vlq
/-
  The contract of the program's Str, over a reader. No condition beyond the reader's own.
-/
namespace Go.Proofs.Ytdggnakjfcmnmaa.Vlq
open Go.RowKit
set_option linter.unusedVariables false
theorem wd_pos (l : List UInt8) (i : Nat) (h : (wd l i).2 = 0) : 0 < (wd l i).1 := by
  induction l generalizing i with
  | nil => simp [wd] at h
  | cons c r ih =>
    unfold wd at h ⊢
    split
    · simp
    · rename_i h1
      rw [if_neg h1] at h
      split
      · rename_i h2; rw [if_pos h2] at h; simp at h
      · rename_i h2; rw [if_neg h2] at h; exact ih _ h
def strR (l : List UInt8) (i : Nat) (er most : Int) : List UInt8 × Nat × Int :=
  if er ≠ 0 then ([], i, er)
  else if (look (l.drop i) most).2.2 ≠ 0 then ([], i, (look (l.drop i) most).2.2)
  else if l.length - i - (look (l.drop i) most).2.1 < (look (l.drop i) most).1 then ([], i, 2)
  else ((l.drop (i + (look (l.drop i) most).2.1)).take (look (l.drop i) most).1, i + ((look (l.drop i) most).2.1 + (look (l.drop i) most).1), 0)
end Go.Proofs.Ytdggnakjfcmnmaa.Vlq
/-
  The contracts of the document's own reader. Condition: no more than 2^40 bytes.
-/
namespace Go.Proofs.Ytdggnakjfcmnmaa.Vlq
open Go.RowKit
set_option linter.unusedVariables false
def RdM (w : World) (g : Nat) (l : List UInt8) (e : Int) : Prop :=
  Blk w g 63 #[.string (str l), .int .i64 e] ∧ l.length ≤ 1099511627776
theorem RdM.lt {w : World} {g : Nat} {l : List UInt8} {e : Int} (h : RdM w g l e) : g < w.heap.size := h.1.lt
theorem RdM.cells {w : World} {g : Nat} {l : List UInt8} {e : Int} (h : RdM w g l e) :
   w.cell? ⟨g, 0, none⟩ = some (.string (str l)) ∧ w.cell? ⟨g, 1, none⟩ = some (.int .i64 e) ∧ w.frozen? ⟨g, 0, none⟩ = false ∧ w.frozen? ⟨g, 1, none⟩ = false ∧ l.length ≤ 1099511627776 :=
  ⟨(h.1.cell 0).trans rfl, (h.1.cell 1).trans rfl, h.1.frozen 0, h.1.frozen 1, h.2⟩
theorem RdM.setErr {w : World} {g : Nat} {l : List UInt8} {e : Int} (h : RdM w g l e) (e' : Int) : RdM (w.setCell ⟨g, 1, none⟩ (.int .i64 e')) g l e' := ⟨h.1.set_ 1 _, h.2⟩
theorem RdM.grown {w w' : World} {g : Nat} {row : Option Nat} {l : List UInt8} {e : Int} (h : RdM w g l e) (hb : w.grownBy w' row) (hg : some g ≠ row) : RdM w' g l e := ⟨h.1.grown hb hg, h.2⟩
theorem RdM.below {w w' : World} {g B : Nat} {l : List UInt8} {e : Int} (h : RdM w g l e) (hb : Below B w w') (hg : g < B) : RdM w' g l e := ⟨h.1.below hb hg, h.2⟩
def numM (l : List UInt8) (er most : Int) : Int × List UInt8 × Int :=
  if er ≠ 0 then (0, l, er) else ((look l most).1, l.drop (look l most).2.1, (look l most).2.2)
def strM (l : List UInt8) (er most : Int) : List UInt8 × List UInt8 × Int :=
  if er ≠ 0 then ([], l, er)
  else if (look l most).2.2 ≠ 0 then ([], l, (look l most).2.2)
  else if l.length - (look l most).2.1 < (look l most).1 then ([], l, 2)
  else ((l.drop (look l most).2.1).take (look l most).1, l.drop ((look l most).2.1 + (look l most).1), 0)
def closedM (l : List UInt8) (e : Int) : Int := if e ≠ 0 then e else if l = [] then 0 else 3
end Go.Proofs.Ytdggnakjfcmnmaa.Vlq
/-
  What was put is read, as plain mathematics. No condition beyond the numbers' own bounds.
-/
namespace Go.Proofs.Ytdggnakjfcmnmaa.Vlq
set_option linter.unusedVariables false
theorem hi_big (n : Nat) : ∀ c ∈ hi n, 128 ≤ c.toNat := by
  induction n using Nat.strongRecOn with
  | _ n ih =>
    intro c hc
    rcases Nat.eq_zero_or_pos n with h0 | h0
    · subst h0; simp [hi_zero] at hc
    · rw [hi_pos n h0, List.mem_append] at hc
      rcases hc with hc | hc
      · exact ih _ (by omega) c hc
      · simp at hc
        subst hc
        simp; omega
theorem hi_first (n : Nat) (c : UInt8) (h : (hi n)[0]? = some c) : c.toNat ≠ 128 := by
  induction n using Nat.strongRecOn generalizing c with
  | _ n ih =>
    rcases Nat.eq_zero_or_pos n with h0 | h0
    · subst h0; simp [hi_zero] at h
    · rw [hi_pos n h0] at h
      by_cases hq : n / 128 = 0
      · rw [hq, hi_zero] at h
        simp at h
        subst h
        simp; omega
      · rw [List.getElem?_append_left (by rw [hi_pos _ (Nat.pos_of_ne_zero hq)]; simp)] at h
        exact ih _ (by omega) c h
theorem val_hi (n : Nat) : val (hi n) = n := by
  induction n using Nat.strongRecOn with
  | _ n ih =>
    rcases Nat.eq_zero_or_pos n with h0 | h0
    · subst h0; rw [hi_zero]; rfl
    · rw [hi_pos n h0, val_snoc, ih _ (by omega)]
      simp; omega
theorem val_enc (n : Nat) : val (enc n) = n := by
  unfold enc
  rw [val_snoc, val_hi]
  simp; omega
theorem wd_run (l : List UInt8) (c : UInt8) (m : List UInt8) (i : Nat) (h : ∀ x ∈ l, 128 ≤ x.toNat) (hc : c.toNat < 128) (h6 : i + l.length ≤ 5) : wd (l ++ c :: m) i = (i + l.length + 1, 0) := by
  induction l generalizing i with
  | nil => simp [wd, hc]
  | cons a l ih =>
    have ha := h a (by simp)
    rw [List.cons_append, wd, if_neg (by omega), if_neg (by simp at h6; omega), ih (i + 1) (fun x hx => h x (by simp [hx])) (by simp at h6; omega)]
    simp; omega
theorem width_enc (n : Nat) (hn : n ≤ 1099511627776) (m : List UInt8) : width (enc n ++ m) = ((enc n).length, 0) := by
  have hlen := hi_length (n / 128) 5 (by omega)
  have hlast : (UInt8.ofNat (n % 128)).toNat < 128 := by simp; omega
  have hrun := wd_run (hi (n / 128)) (UInt8.ofNat (n % 128)) m 0 (hi_big _) hlast (by omega)
  have e : enc n ++ m = hi (n / 128) ++ UInt8.ofNat (n % 128) :: m := by simp [enc]
  rw [e]
  have hw : width (hi (n / 128) ++ UInt8.ofNat (n % 128) :: m) = wd (hi (n / 128) ++ UInt8.ofNat (n % 128) :: m) 0 := by
    by_cases hq : n / 128 = 0
    · rw [hq, hi_zero]
      simp only [List.nil_append, width]
      rw [if_neg (by omega)]
    · have hp : 0 < (hi (n / 128)).length := by rw [hi_pos _ (Nat.pos_of_ne_zero hq)]; simp
      refine width_cons _ ((hi (n / 128))[0]'hp) ?_ ?_
      · rw [List.getElem?_append_left hp]; simp [hp]
      · exact hi_first (n / 128) _ (by simp [hp])
  rw [hw, hrun]
  simp [enc]
theorem look_enc (n : Nat) (hn : n ≤ 1099511627776) (m : List UInt8) (most : Int) (hm : (n : Int) ≤ most) : look (enc n ++ m) most = (n, (enc n).length, 0) := by
  unfold look
  rw [width_enc n hn]
  simp only [List.take_left, val_enc]
  rw [if_neg (by simp), if_neg (by omega)]
end Go.Proofs.Ytdggnakjfcmnmaa.Vlq

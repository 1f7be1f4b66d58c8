/-
  Some texts of this claim, one behind the other: WireB. What each proves, and its condition, stands at its head.
-/
import Derived.Test.YtdggnakjfcmnmaaZC14
import Derived.Test.YtdggnakjfcmnmaaZC12
import Derived.Test.YtdggnakjfcmnmaaZC17
import Derived.Test.YtdggnakjfcmnmaaZC29
/-
  New slices of bytes that a call makes: the contracts of the program's Put and Text in one form, the words for an append of bytes to bytes in a region that draws. Condition: texts of at most 24 bytes.
-/
namespace Go.Proofs.Ytdggnakjfcmnmaa.Wire
open Go Go.RowKit Go.Lib Go.Proofs.Ytdggnakjfcmnmaa.Grow
open Go.Proofs.Ytdggnakjfcmnmaa.Vlq (enc held put_new text_new encs)
set_option linter.unusedVariables false
def MakesB (w : World) (L : List UInt8) (e : Ending) (w' : World) : Prop := ∃ A n c, e = .returned (.slice A n c) ∧ NewB w' w.heap.size A n c L ∧ Below w.heap.size w w'
theorem encs_one (n : Int) : [] ++ encs [n] = encN n := by simp [encs, encN]
theorem reads_two (w : World) (a b : Int) (T : TypeId) (g : Nat) (hg : g = w.heap.size) : Reads (w.alloc (.cells #[.int .i64 a, .int .i64 b] T)) (w.heap.size + 1) 1 (some ⟨g, 0, none⟩) 2 (ics [a, b]) := by
  subst hg
  have h := Reads.newL w T #[.int .i64 a, .int .i64 b]
  exact ⟨rfl, fun _ => h.2 (by simp)⟩
def isI (l : List Int) : Rel := fun w v => ∃ A n c, v = .slice A n c ∧ Reads w w.heap.size 1 A n (ics l)
theorem isI_stable (l : List Int) : ∀ w w' v, Below w.heap.size w w' → isI l w v → isI l w' v :=
  fun _ _ _ hb ⟨A, n, c, hv, hn⟩ => ⟨A, n, c, hv, (hn.below hb).more hb.size⟩
def catsB (B : Nat) (L1 L2 : List UInt8) : Wr := fun w1 v w2 => ∃ A n c, v = .slice A n c ∧ NewB w2 B A n c (L1 ++ L2) ∧ Below B w1 w2
theorem put_B (n : Int) (A : Option Addr) (k c : Nat) (w : World) (h : Reads w w.heap.size 1 A k (ics [n])) : Calls Try.prog 32 #[.slice none 0 0, .slice A k c] w (MakesB w (encN n)) :=
  put_new none 0 0 [] A k c [n] w (encN n) (encs_one n) (by omega) (by have := h.1; simp [ics] at this; omega) Reads.none_ h
end Go.Proofs.Ytdggnakjfcmnmaa.Wire

/-
  Some texts of this claim, one behind the other: SpanCells, SpanRead, SpanForm, SpanSame. What each proves, and its condition, stands at its head.
-/
import Derived.Test.YtdggnakjfcmnmaaZB1
import Derived.Test.YtdggnakjfcmnmaaZB2
import Derived.Test.YtdggnakjfcmnmaaChecked
/-
  Slices of spans: what came in with a call, and new ones of the call's own. No condition.
-/
namespace Go.Proofs.Ytdggnakjfcmnmaa.Span
open Go.RowKit
set_option linter.unusedVariables false
theorem info_int : (Try.prog.info? 3).map (fun i => (i.zero, i.size, i.bytes)) = some (some (.int .i64 0), 1, 8) := by kernel_rfl
def SpIn (w : World) (B : Nat) (A : Option Addr) (n : Nat) (l : List S) : Prop :=
  l.length = n ∧ (0 < n → ∃ ad, A = some ad ∧ ad.block < B ∧ ∀ i s, l[i]? = some s → w.cell? (ad.add (i * 2)) = some (.int .i64 s.1) ∧ w.cell? ⟨(ad.add (i * 2)).block, (ad.add (i * 2)).off + 1, none⟩ = some (.int .i64 s.2))
theorem add_field (ad : Addr) (k : Nat) : ad.add (k + 1) = ⟨(ad.add k).block, (ad.add k).off + 1, none⟩ := by
  unfold Addr.add
  by_cases h : k = 0 <;> simp [h, Nat.add_assoc]
theorem SpIn.at_ {w : World} {B n k : Nat} {A : Option Addr} {l : List S} (h : SpIn w B A n l) (hk : k < n) :
    ∃ ad s, A = some ad ∧ ad.block < B ∧ l[k]? = some s ∧ w.cell? (ad.add (k * 2)) = some (.int .i64 s.1) ∧ w.cell? ⟨(ad.add (k * 2)).block, (ad.add (k * 2)).off + 1, none⟩ = some (.int .i64 s.2) := by
  obtain ⟨hl, h⟩ := h
  obtain ⟨ad, hA, hb, hc⟩ := h (by omega)
  have hp : l[k]? = some l[k] := by simp
  exact ⟨ad, l[k], hA, hb, hp, (hc k _ hp).1, (hc k _ hp).2⟩
theorem SpIn.below {w w' : World} {B n : Nat} {A : Option Addr} {l : List S} (h : SpIn w B A n l) (hb : Below B w w') : SpIn w' B A n l :=
  ⟨h.1, fun hn => by
    obtain ⟨ad, hA, hbl, hc⟩ := h.2 hn
    refine ⟨ad, hA, hbl, fun i p hp => ?_⟩
    rw [hb.cell (by rw [block_of_add]; exact hbl), hb.cell (p := ⟨(ad.add (i * 2)).block, (ad.add (i * 2)).off + 1, none⟩) (by simp only [block_of_add]; exact hbl)]
    exact hc i p hp⟩
theorem SpIn.more {w : World} {B B' n : Nat} {A : Option Addr} {l : List S} (h : SpIn w B A n l) (hb : B ≤ B') : SpIn w B' A n l :=
  ⟨h.1, fun hn => by
    obtain ⟨ad, hA, hbl, hc⟩ := h.2 hn
    exact ⟨ad, hA, by omega, hc⟩⟩
theorem SpIn.drewN {w : World} {B n : Nat} {A : Option Addr} {l : List S} (h : SpIn w B A n l) (k : Nat) : SpIn (w.drewN k) B A n l := h
theorem SpIn.nil (w : World) (B : Nat) (A : Option Addr) : SpIn w B A 0 [] := ⟨rfl, fun h => absurd h (by omega)⟩
def scs : List S → List Value
  | [] => []
  | s :: t => .int .i64 s.1 :: .int .i64 s.2 :: scs t
end Go.Proofs.Ytdggnakjfcmnmaa.Span
/-
  Contracts of what tells of spans and writes nothing that was there: told, the closures, edge, passed, Has, Count, Least, Most, the document's own ones. Condition: the slice reads as spans.
-/
namespace Go.Proofs.Ytdggnakjfcmnmaa.Span
open Go.RowKit Go.Lib
set_option linter.unusedVariables false
def toldM (op : Int) (x y : Bool) : Bool := if op = 0 then x || y else if op = 1 then x && y else !x
end Go.Proofs.Ytdggnakjfcmnmaa.Span
/-
  The form of layer 6's contracts: a slice that reads as spans in the world at hand; a call that makes such a slice, a call that tells a value. No condition.
-/
namespace Go.Proofs.Ytdggnakjfcmnmaa.Span
open Go Go.RowKit Go.Lib
set_option linter.unusedVariables false
def SpOn (w : World) (A : Option Addr) (n : Nat) (l : List S) : Prop := SpIn w w.heap.size A n l
theorem SpOn.on {w w' : World} {A : Option Addr} {n : Nat} {l : List S} (h : SpOn w A n l) (hb : Below w.heap.size w w') : SpOn w' A n l := (SpIn.below h hb).more hb.size
section
variable {A A' : Option Addr} {n c n' c' : Nat} {l m : List S} {w : World}
theorem SpOn.len (h : SpOn w A n l) : n = l.length := h.1.symm
def Makes (w : World) (L : List S) (e : Ending) (w' : World) : Prop := ∃ A n c, e = .returned (.slice A n c) ∧ SpOn w' A n L ∧ Below w.heap.size w w'
def Tells (w : World) (v : Value) (e : Ending) (w' : World) : Prop := e = .returned v ∧ Below w.heap.size w w'
end
theorem alloc_b {w : World} (o : Obj) : Below w.heap.size w (w.alloc o) := (Below.refl _ _).alloc (Nat.le_refl _) o
end Go.Proofs.Ytdggnakjfcmnmaa.Span
/-
  Contracts of Same, the program's (over the library's Equal) and the document's: whether two lists are alike. Condition: the slices read as spans.
-/
namespace Go.Proofs.Ytdggnakjfcmnmaa.Span
open Go.RowKit Go.Lib
set_option linter.unusedVariables false
def same2 (a b c d : Int) : Bool := (a == c) && (b == d)
end Go.Proofs.Ytdggnakjfcmnmaa.Span

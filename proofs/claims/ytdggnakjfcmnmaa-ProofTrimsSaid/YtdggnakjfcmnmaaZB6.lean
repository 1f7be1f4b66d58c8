/-
  Some texts of this claim, one behind the other: NeedMath, NeedCells, ManiTexts. What each proves, and its condition, stands at its head.
-/
import Derived.Test.YtdggnakjfcmnmaaZB4
import Derived.Test.YtdggnakjfcmnmaaZB5
import Derived.Sort.Walk0
import Derived.Test.YtdggnakjfcmnmaaZB3
/-
  Plain mathematics of needs: names in their order, which needs may be, what is needed of a name, what both need. No program.
-/
namespace Go.Proofs.Ytdggnakjfcmnmaa.Need
open Go.RowKit Go.Lib Go.Proofs.Ytdggnakjfcmnmaa.Span
open Go.Proofs.Ytdggnakjfcmnmaa.Label (runes fitL allOk runes_end)
set_option linter.unusedVariables false
abbrev Nd := ByteArray × List S
def nlt (a b : ByteArray) : Bool := Op.bytesLess a.toList b.toList
theorem nlt_iff {a b : ByteArray} : nlt a b = true ↔ a.toList < b.toList := by unfold nlt; rw [bytesLess_eq]; simp
theorem toList_inj {a b : ByteArray} (h : a.toList = b.toList) : a = b := by
  rw [Lib.toList_data, Lib.toList_data] at h
  exact ByteArray.ext (Array.toList_inj.1 h)
theorem eq_names (a b : ByteArray) : (a.toList == b.toList) = decide (a = b) := by
  rw [Bool.eq_iff_iff]
  simp only [beq_iff_eq, decide_eq_true_eq]
  exact ⟨toList_inj, fun h => by rw [h]⟩
theorem nlt_self (a : ByteArray) : nlt a a = false := by
  cases h : nlt a a with
  | false => rfl
  | true => exact absurd (nlt_iff.1 h) (List.lt_irrefl _)
theorem nlt_trans {a b c : ByteArray} (h : nlt a b = true) (h' : nlt b c = true) : nlt a c = true := nlt_iff.2 (List.lt_trans (nlt_iff.1 h) (nlt_iff.1 h'))
theorem nlt_asymm {a b : ByteArray} (h : nlt a b = true) : nlt b a = false := by
  cases h' : nlt b a with
  | false => rfl
  | true => exact absurd (nlt_trans h h') (by rw [nlt_self]; simp)
theorem nlt_ne {a b : ByteArray} (h : nlt a b = true) : a ≠ b := by
  rintro rfl
  rw [nlt_self] at h
  cases h
theorem nlt_tri {a b : ByteArray} (h : nlt a b = false) (h' : nlt b a = false) : a = b := by
  have h1 : ¬ a.toList < b.toList := fun g => by rw [nlt_iff.2 g] at h; cases h
  have h2 : ¬ b.toList < a.toList := fun g => by rw [nlt_iff.2 g] at h'; cases h'
  exact toList_inj (List.le_antisymm (List.not_lt.1 h2) (List.not_lt.1 h1))
def okFrom : ByteArray → List Nd → Bool
  | _, [] => true
  | a, q :: t => (fitL (runes q.1 0) && nlt a q.1 && (isSet (-1) q.2 && decide (q.2.length ≤ 6))) && okFrom q.1 t
def okS (l : List Nd) : Bool := okFrom ByteArray.empty l && decide (l.length ≤ 6)
def Rises (l : List Nd) : Prop := l.Pairwise fun x y => nlt x.1 y.1 = true
def findS : List Nd → ByteArray → Option (List S)
  | [], _ => none
  | q :: t, n => if q.1 = n then some q.2 else findS t n
noncomputable def mergeS : List Nd → List Nd → List Nd
  | [], b => b
  | x :: a, [] => x :: a
  | x :: a, y :: b =>
    if nlt x.1 y.1 = true then x :: mergeS a (y :: b)
    else if nlt y.1 x.1 = true then y :: mergeS (x :: a) b
    else (x.1, meetS x.2 y.2) :: mergeS a b
  termination_by a b => a.length + b.length
noncomputable def putN (n : Nd) : Bool → List Nd → List Nd
  | i, [] => if i = true then [] else [n]
  | i, x :: t => if i = false ∧ nlt n.1 x.1 = true then n :: x :: putN n true t else if n.1 = x.1 then (n.1, meetS x.2 n.2) :: putN n true t else x :: putN n i t
def both2 : Option (List S) → Option (List S) → Option (List S) → Prop
  | some x, some y, r => r = some (meetS x y)
  | some x, none, r => r = some x
  | none, some y, r => r = some y
  | none, none, r => r = none
end Go.Proofs.Ytdggnakjfcmnmaa.Need
/-
  Slices of needs in memory: what came in with a call, and what the call makes. No condition.
-/
namespace Go.Proofs.Ytdggnakjfcmnmaa.Need
open Go.RowKit Go.Lib Go.Proofs.Ytdggnakjfcmnmaa.Span
set_option linter.unusedVariables false
abbrev Rw := ByteArray × Value
def rcs : List Rw → List Value
  | [] => []
  | r :: t => .string r.1 :: r.2 :: rcs t
theorem rcs_length (l : List Rw) : (rcs l).length = l.length * 2 := by
  induction l with
  | nil => rfl
  | cons s t ih => simp [rcs, ih]; omega
theorem rcs_get (l : List Rw) : ∀ (i : Nat) (r : Rw), l[i]? = some r → (rcs l)[i * 2]? = some (.string r.1) ∧ (rcs l)[i * 2 + 1]? = some r.2 := by
  induction l with
  | nil => intro i s h; simp at h
  | cons x t ih =>
    intro i s h
    cases i with
    | zero => simp at h; subst h; exact ⟨rfl, rfl⟩
    | succ i =>
      rw [List.getElem?_cons_succ] at h
      have := ih i s h
      rw [show (i + 1) * 2 = i * 2 + 1 + 1 by omega, show i * 2 + 1 + 1 + 1 = (i * 2 + 1) + 1 + 1 by omega]
      exact this
def Fits (w : World) (B : Nat) (rs : List Rw) (l : List Nd) : Prop :=
  rs.length = l.length ∧ ∀ (i : Nat) (r : Rw) (q : Nd), rs[i]? = some r → l[i]? = some q → r.1 = q.1 ∧ ∃ A n c, r.2 = .slice A n c ∧ SpIn w B A n q.2
theorem Fits.slices {w : World} {B : Nat} {rs : List Rw} {l : List Nd} (h : Fits w B rs l) : ∀ r ∈ rs, ∃ A n c, r.2 = .slice A n c := by
  intro r hr
  obtain ⟨i, hi, rfl⟩ := List.getElem_of_mem hr
  obtain ⟨_, A, n, c, e, _⟩ := h.2 i rs[i] (l[i]'(by rw [← h.1]; exact hi)) (by simp) (by simp)
  exact ⟨A, n, c, e⟩
def NdIn (w : World) (B : Nat) (A : Option Addr) (n : Nat) (l : List Nd) : Prop := ∃ rs, Reads w B 2 A n (rcs rs) ∧ Fits w B rs l
section
variable {w w' : World} {B B' n k : Nat} {A : Option Addr} {l : List Nd}
theorem NdIn.len (h : NdIn w B A n l) : l.length = n := by
  obtain ⟨rs, h1, h2⟩ := h
  have := h1.1
  rw [rcs_length] at this
  have := h2.1
  omega
theorem NdIn.at_ (h : NdIn w B A n l) (hk : k < n) :
    ∃ ad q A' n' c', A = some ad ∧ ad.block < B ∧ l[k]? = some q ∧ SpIn w B A' n' q.2 ∧ w.cell? (ad.add (k * 2)) = some (.string q.1) ∧ w.cell? ⟨(ad.add (k * 2)).block, (ad.add (k * 2)).off + 1, none⟩ = some (.slice A' n' c') := by
  have hl := h.len
  obtain ⟨rs, h1, h2⟩ := h
  obtain ⟨ad, hA, hb, hc⟩ := h1.2 (by omega)
  have hr : k < rs.length := by rw [h2.1]; omega
  obtain ⟨e1, A', n', c', e2, hs⟩ := h2.2 k rs[k] (l[k]'(by omega)) (by simp) (by simp)
  obtain ⟨g1, g2⟩ := rcs_get rs k rs[k] (by simp)
  refine ⟨ad, l[k]'(by omega), A', n', c', hA, hb, by simp, hs, ?_, ?_⟩
  · rw [← e1]; exact hc _ _ g1
  · rw [← add_field, ← e2]; exact hc _ _ g2
theorem Fits.below {rs : List Rw} (h : Fits w B rs l) (hb : Below B w w') : Fits w' B rs l :=
  ⟨h.1, fun i r q hr hq => by
    obtain ⟨e1, A', n', c', e2, hs⟩ := h.2 i r q hr hq
    exact ⟨e1, A', n', c', e2, hs.below hb⟩⟩
theorem Fits.more {rs : List Rw} (h : Fits w B rs l) (hb : B ≤ B') : Fits w B' rs l :=
  ⟨h.1, fun i r q hr hq => by
    obtain ⟨e1, A', n', c', e2, hs⟩ := h.2 i r q hr hq
    exact ⟨e1, A', n', c', e2, hs.more hb⟩⟩
theorem NdIn.below (h : NdIn w B A n l) (hb : Below B w w') : NdIn w' B A n l := by
  obtain ⟨rs, h1, h2⟩ := h
  exact ⟨rs, h1.below hb, h2.below hb⟩
theorem NdIn.more (h : NdIn w B A n l) (hb : B ≤ B') : NdIn w B' A n l := by
  obtain ⟨rs, h1, h2⟩ := h
  exact ⟨rs, h1.more hb, h2.more hb⟩
theorem NdIn.nil (w : World) (B : Nat) (A : Option Addr) : NdIn w B A 0 [] := ⟨[], ⟨rfl, fun h => absurd h (by omega)⟩, rfl, fun i r q hr _ => by simp at hr⟩
theorem Fits.drop {rs : List Rw} (h : Fits w B rs l) (k : Nat) : Fits w B (rs.drop k) (l.drop k) :=
  ⟨by simp [h.1], fun i r q hr hq => by
    rw [List.getElem?_drop] at hr hq
    exact h.2 _ r q hr hq⟩
end
def NdOn (w : World) (A : Option Addr) (n : Nat) (l : List Nd) : Prop := NdIn w w.heap.size A n l
theorem NdOn.on {w w' : World} {A : Option Addr} {n : Nat} {l : List Nd} (h : NdOn w A n l) (hb : Below w.heap.size w w') : NdOn w' A n l := (NdIn.below h hb).more hb.size
/-! What a call makes. -/
section
variable {w w' : World} {B n c : Nat} {A : Option Addr} {l : List S}
end
section
variable {w w' w1 : World} {B n m : Nat} {v v1 : Value} {rs rs2 : List Rw} {l l2 : List Nd}
end
end Go.Proofs.Ytdggnakjfcmnmaa.Need
/-
  Slices of texts: as they came in, as a call makes them; the contract of the document's Names2, at two lists that are alike: true. Condition: lists of a length that may be walked.
-/
namespace Go.Proofs.Ytdggnakjfcmnmaa.Mani
open Go Go.RowKit Go.Lib Go.Proofs.Ytdggnakjfcmnmaa.Span Go.Proofs.Ytdggnakjfcmnmaa.Need
set_option linter.unusedVariables false
def tcs (l : List ByteArray) : List Value := l.map Value.string
theorem tcs_append (l m : List ByteArray) : tcs (l ++ m) = tcs l ++ tcs m := by simp [tcs]
theorem tcs_length (l : List ByteArray) : (tcs l).length = l.length := by simp [tcs]
def TxOn (w : World) (A : Option Addr) (n : Nat) (L : List ByteArray) : Prop := Reads w w.heap.size 1 A n (tcs L)
theorem TxOn.on {w w' : World} {A : Option Addr} {n : Nat} {L : List ByteArray} (h : TxOn w A n L) (hb : Below w.heap.size w w') : TxOn w' A n L := (Reads.below h hb).more hb.size
theorem TxOn.len {w : World} {A : Option Addr} {n : Nat} {L : List ByteArray} (h : TxOn w A n L) : L.length = n := by
  have := h.1
  rw [tcs_length] at this
  omega
theorem tcs_at {w : World} {B n k : Nat} {A : Option Addr} {l : List ByteArray} (h : Reads w B 1 A n (tcs l)) (hk : k < n) : ∃ ad z, A = some ad ∧ ad.block < B ∧ l[k]? = some z ∧ w.cell? (ad.add k) = some (.string z) := by
  obtain ⟨ad, u, hA, hb, hx, hc⟩ := h.at_ hk
  simp only [tcs, List.getElem?_map, Option.map_eq_some_iff] at hx
  obtain ⟨z, hz, rfl⟩ := hx
  exact ⟨ad, z, hA, hb, hz, hc⟩
def MakesT (w : World) (L : List ByteArray) (e : Ending) (w' : World) : Prop := ∃ A n c, e = .returned (.slice A n c) ∧ TxOn w' A n L ∧ Below w.heap.size w w'
theorem info_str : (Try.prog.info? 9).map (fun i => (i.zero, i.size, i.bytes)) = some (some (.string ByteArray.empty), 1, 16) := by kernel_rfl
theorem one_str (x : ByteArray) : ∀ u ∈ [Value.string x], u.oneCell' = true := by
  intro u hu
  rw [List.mem_singleton.1 hu]; rfl
theorem own_texts {w : World} {B n : Nat} {v : Value} {L : List ByteArray} (h : w.ownsRow B 9 1 v n (tcs L)) : ∃ A c, v = .slice A n c ∧ n ≤ c ∧ TxOn w A n L := by
  obtain ⟨A, c, rfl, hc, hm, hr⟩ := own_form h
  exact ⟨A, c, rfl, hc, hr⟩
end Go.Proofs.Ytdggnakjfcmnmaa.Mani

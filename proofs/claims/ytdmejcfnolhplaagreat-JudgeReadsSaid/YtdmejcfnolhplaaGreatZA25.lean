/-
  Some texts of this claim, one behind the other: PickCells, ProofCells. What each proves, and its condition, stands at its head.
-/
import Derived.Test.YtdmejcfnolhplaaGreatZA19
import Derived.Test.YtdmejcfnolhplaaGreatZA1
import Derived.Test.YtdmejcfnolhplaaGreatZA11
import Derived.Test.YtdmejcfnolhplaaGreatChecked
import Derived.Laws.Cover1
/-
  Slices of picks in memory: what came in with a call, and new ones of the call's own. No condition.
-/
namespace Go.Proofs.YtdmejcfnolhplaaGreat.Pick
open Go Go.RowKit Go.Lib
set_option linter.unusedVariables false
def pks : List Pk → List Value
  | [] => []
  | s :: t => .string s.1 :: .int .i64 s.2 :: pks t
theorem pks_length (l : List Pk) : (pks l).length = l.length * 2 := by
  induction l with
  | nil => rfl
  | cons s t ih => simp [pks, ih]; omega
theorem pks_get (l : List Pk) : ∀ (i : Nat) (s : Pk), l[i]? = some s → (pks l)[i * 2]? = some (.string s.1) ∧ (pks l)[i * 2 + 1]? = some (.int .i64 s.2) := by
  induction l with
  | nil => intro i s h; simp at h
  | cons x t ih =>
    intro i s h
    cases i with
    | zero => simp at h; subst h; exact ⟨rfl, rfl⟩
    | succ i =>
      rw [List.getElem?_cons_succ] at h
      have := ih i s h
      rw [show (i + 1) * 2 = i * 2 + 1 + 1 by omega, show i * 2 + 1 + 1 + 1 = (i * 2 + 1) + 1 + 1 by omega]
      exact this
theorem add_field (ad : Addr) (k : Nat) : ad.add (k + 1) = ⟨(ad.add k).block, (ad.add k).off + 1, none⟩ := by
  unfold Addr.add
  by_cases h : k = 0 <;> simp [h, Nat.add_assoc]
def PkIn (w : World) (B : Nat) (A : Option Addr) (n : Nat) (l : List Pk) : Prop := Reads w B 2 A n (pks l)
section
variable {w w' : World} {B B' n k : Nat} {A : Option Addr} {l : List Pk}
theorem PkIn.len (h : PkIn w B A n l) : l.length = n := by
  have := h.1
  rw [pks_length] at this
  omega
theorem PkIn.at_ (h : PkIn w B A n l) (hk : k < n) :
    ∃ ad s, A = some ad ∧ ad.block < B ∧ l[k]? = some s ∧ w.cell? (ad.add (k * 2)) = some (.string s.1) ∧ w.cell? ⟨(ad.add (k * 2)).block, (ad.add (k * 2)).off + 1, none⟩ = some (.int .i64 s.2) := by
  have hl := h.len
  obtain ⟨ad, hA, hb, hc⟩ := h.2 (by omega)
  obtain ⟨g1, g2⟩ := pks_get l k (l[k]'(by omega)) (by simp)
  refine ⟨ad, l[k]'(by omega), hA, hb, by simp, hc _ _ g1, ?_⟩
  rw [← add_field]
  exact hc _ _ g2
theorem PkIn.nil (w : World) (B : Nat) (A : Option Addr) : PkIn w B A 0 [] := ⟨rfl, fun h => absurd h (by omega)⟩
end
def PkOn (w : World) (A : Option Addr) (n : Nat) (l : List Pk) : Prop := PkIn w w.heap.size A n l
theorem PkOn.len {w : World} {A : Option Addr} {n : Nat} {l : List Pk} (h : PkOn w A n l) : l.length = n := PkIn.len h
end Go.Proofs.YtdmejcfnolhplaaGreat.Pick
/-
  Slices of steps of a proof in memory: what came in with a call, and new ones of the call's own. No condition.
-/
namespace Go.Proofs.YtdmejcfnolhplaaGreat.Proof
open Go Go.RowKit Go.Lib
set_option linter.unusedVariables false
theorem alloc_b (w : World) (o : Obj) : Below w.heap.size w (w.alloc o) := (Below.refl _ _).alloc (Nat.le_refl _) o
def pfs : List Sp → List Value
  | [] => []
  | q :: t => .int .i64 q.kind :: .string q.name :: .int .i64 q.ver :: .string q.dest :: .int .i64 q.a :: .int .i64 q.b :: pfs t
theorem pfs_length (l : List Sp) : (pfs l).length = l.length * 6 := by
  induction l with
  | nil => rfl
  | cons s t ih => simp [pfs, ih]; omega
theorem pfs_get (l : List Sp) : ∀ (i : Nat) (q : Sp), l[i]? = some q → (pfs l)[i * 6]? = some (.int .i64 q.kind) ∧ (pfs l)[i * 6 + 1]? = some (.string q.name) ∧ (pfs l)[i * 6 + 2]? = some (.int .i64 q.ver) ∧ (pfs l)[i * 6 + 3]? = some (.string q.dest) ∧ (pfs l)[i * 6 + 4]? = some (.int .i64 q.a) ∧ (pfs l)[i * 6 + 5]? = some (.int .i64 q.b) := by
  induction l with
  | nil => intro i s h; simp at h
  | cons x t ih =>
    intro i s h
    cases i with
    | zero => simp at h; subst h; exact ⟨rfl, rfl, rfl, rfl, rfl, rfl⟩
    | succ i =>
      rw [List.getElem?_cons_succ] at h
      have := ih i s h
      have e : (i + 1) * 6 = i * 6 + 1 + 1 + 1 + 1 + 1 + 1 := by omega
      rw [e]
      refine ⟨this.1, ?_, ?_, ?_, ?_, ?_⟩
      · rw [show i * 6 + 1 + 1 + 1 + 1 + 1 + 1 + 1 = (i * 6 + 1) + 1 + 1 + 1 + 1 + 1 + 1 by omega]; exact this.2.1
      · rw [show i * 6 + 1 + 1 + 1 + 1 + 1 + 1 + 2 = (i * 6 + 2) + 1 + 1 + 1 + 1 + 1 + 1 by omega]; exact this.2.2.1
      · rw [show i * 6 + 1 + 1 + 1 + 1 + 1 + 1 + 3 = (i * 6 + 3) + 1 + 1 + 1 + 1 + 1 + 1 by omega]; exact this.2.2.2.1
      · rw [show i * 6 + 1 + 1 + 1 + 1 + 1 + 1 + 4 = (i * 6 + 4) + 1 + 1 + 1 + 1 + 1 + 1 by omega]; exact this.2.2.2.2.1
      · rw [show i * 6 + 1 + 1 + 1 + 1 + 1 + 1 + 5 = (i * 6 + 5) + 1 + 1 + 1 + 1 + 1 + 1 by omega]; exact this.2.2.2.2.2
def PfIn (w : World) (B : Nat) (A : Option Addr) (n : Nat) (l : List Sp) : Prop := Reads w B 6 A n (pfs l)
section
variable {w w' w1 : World} {B B' n m k : Nat} {A : Option Addr} {l : List Sp} {v v1 : Value}
theorem PfIn.len (h : PfIn w B A n l) : l.length = n := by
  have := h.1
  rw [pfs_length] at this
  omega
theorem PfIn.below (h : PfIn w B A n l) (hb : Below B w w') : PfIn w' B A n l := Reads.below h hb
theorem PfIn.more (h : PfIn w B A n l) (hb : B ≤ B') : PfIn w B' A n l := Reads.more h hb
theorem addr_any (a : Addr) (i j : Nat) (hj : 0 < j) : a.add (i + j) = ⟨(a.add i).block, (a.add i).off + j, none⟩ := by
  unfold Addr.add
  by_cases hi : i = 0
  · subst hi; simp; intro h; omega
  · simp [hi]; omega
theorem PfIn.at_ (h : PfIn w B A n l) (hk : k < n) :
    ∃ ad q, A = some ad ∧ ad.block < B ∧ l[k]? = some q ∧ w.cell? (ad.add (k * 6)) = some (.int .i64 q.kind) ∧ w.cell? ⟨(ad.add (k * 6)).block, (ad.add (k * 6)).off + 1, none⟩ = some (.string q.name) ∧ w.cell? ⟨(ad.add (k * 6)).block, (ad.add (k * 6)).off + 2, none⟩ = some (.int .i64 q.ver) ∧
      w.cell? ⟨(ad.add (k * 6)).block, (ad.add (k * 6)).off + 3, none⟩ = some (.string q.dest) ∧ w.cell? ⟨(ad.add (k * 6)).block, (ad.add (k * 6)).off + 4, none⟩ = some (.int .i64 q.a) ∧ w.cell? ⟨(ad.add (k * 6)).block, (ad.add (k * 6)).off + 5, none⟩ = some (.int .i64 q.b) := by
  have hl := h.len
  obtain ⟨ad, hA, hb, hc⟩ := h.2 (by omega)
  have hk2 : k < l.length := by omega
  obtain ⟨g0, g1, g2, g3, g4, g5⟩ := pfs_get l k l[k] (by simp)
  refine ⟨ad, l[k], hA, hb, by simp, hc _ _ g0, ?_, ?_, ?_, ?_, ?_⟩
  · rw [← addr_any ad _ 1 (by omega)]; exact hc _ _ g1
  · rw [← addr_any ad _ 2 (by omega)]; exact hc _ _ g2
  · rw [← addr_any ad _ 3 (by omega)]; exact hc _ _ g3
  · rw [← addr_any ad _ 4 (by omega)]; exact hc _ _ g4
  · rw [← addr_any ad _ 5 (by omega)]; exact hc _ _ g5
theorem PfIn.nil (w : World) (B : Nat) (A : Option Addr) : PfIn w B A 0 [] := ⟨rfl, fun h => absurd h (by omega)⟩
end
def PfOn (w : World) (A : Option Addr) (n : Nat) (l : List Sp) : Prop := PfIn w w.heap.size A n l
theorem PfOn.on {w w' : World} {A : Option Addr} {n : Nat} {l : List Sp} (h : PfOn w A n l) (hb : Below w.heap.size w w') : PfOn w' A n l := (PfIn.below h hb).more hb.size
theorem PfOn.len {w : World} {A : Option Addr} {n : Nat} {l : List Sp} (h : PfOn w A n l) : l.length = n := PfIn.len h
def toSp (x : Int × ByteArray × Int × ByteArray × Int × Int) : Sp := ⟨x.1, x.2.1, x.2.2.1, x.2.2.2.1, x.2.2.2.2.1, x.2.2.2.2.2⟩
abbrev lieStep : Lie (Int × ByteArray × Int × ByteArray × Int × Int) := liePair (lieInt .i64) (liePair lieStr (liePair (lieInt .i64) (liePair lieStr (liePair (lieInt .i64) (lieInt .i64)))))
theorem pfOn_of {w : World} {A : Option Addr} {n : Nat} {l : List (Int × ByteArray × Int × ByteArray × Int × Int)} (h : RowOf lieStep w w.heap.size A n l) : PfOn w A n (l.map toSp) ∧ ∀ q ∈ l.map toSp, q.name.size ≤ maxLen ∧ q.dest.size ≤ maxLen := by
  have key : ∀ i q, l[i]? = some q → ∃ ad, A = some ad ∧ ad.block < w.heap.size ∧ w.cell? (ad.add (i * 6)) = some (.int .i64 (toSp q).kind) ∧ w.cell? (ad.add (i * 6 + 1)) = some (.string (toSp q).name) ∧ w.cell? (ad.add (i * 6 + 2)) = some (.int .i64 (toSp q).ver) ∧ w.cell? (ad.add (i * 6 + 3)) = some (.string (toSp q).dest) ∧ w.cell? (ad.add (i * 6 + 4)) = some (.int .i64 (toSp q).a) ∧ w.cell? (ad.add (i * 6 + 5)) = some (.int .i64 (toSp q).b) ∧ (toSp q).name.size ≤ maxLen ∧ (toSp q).dest.size ≤ maxLen := by
    intro i q hq
    have hi : i < l.length := (List.getElem?_eq_some_iff.1 hq).1
    obtain ⟨ad, hA, hB, hc⟩ := h.2 (by have := h.1; omega)
    obtain ⟨cs, h1, c0, r0, e0, ⟨g0, _⟩, c1, r1, e1, ⟨g1, hs1⟩, c2, r2, e2, ⟨g2, _⟩, c3, r3, e3, ⟨g3, hs3⟩, c4, c5, e4, ⟨g4, _⟩, ⟨g5, _⟩⟩ := hc i q hq
    subst e0 e1 e2 e3 e4 g0 g1 g2 g3 g4 g5
    have x0 := h1 0 (by simp)
    have x1 := h1 1 (by simp)
    have x2 := h1 2 (by simp)
    have x3 := h1 3 (by simp)
    have x4 := h1 4 (by simp)
    have x5 := h1 5 (by simp)
    rw [add_of_add] at x0 x1 x2 x3 x4 x5
    exact ⟨ad, hA, hB, by simpa [liePair, lieInt, lieStr, toSp] using x0, by simpa [liePair, lieInt, lieStr, toSp] using x1, by simpa [liePair, lieInt, lieStr, toSp] using x2, by simpa [liePair, lieInt, lieStr, toSp] using x3, by simpa [liePair, lieInt, lieStr, toSp] using x4, by simpa [liePair, lieInt, lieStr, toSp] using x5, hs1, hs3⟩
  refine ⟨⟨by rw [pfs_length, List.length_map, h.1], fun hn => ?_⟩, fun q hq => ?_⟩
  · obtain ⟨ad, hA, hB, _⟩ := h.2 hn
    refine ⟨ad, hA, hB, fun j u hu => ?_⟩
    have hj : j < l.length * 6 := by
      have := (List.getElem?_eq_some_iff.1 hu).1
      rwa [pfs_length, List.length_map] at this
    have hi : l[j / 6]? = some (l[j / 6]'(by omega)) := by simp
    obtain ⟨ad', hA', _, c0, c1, c2, c3, c4, c5, _⟩ := key _ _ hi
    rw [hA] at hA'
    injection hA' with hA'
    subst hA'
    have hm : (l.map toSp)[j / 6]? = some (toSp (l[j / 6]'(by omega))) := by rw [List.getElem?_map, hi]; rfl
    obtain ⟨g0, g1, g2, g3, g4, g5⟩ := pfs_get _ _ _ hm
    have hj6 : j % 6 < 6 := Nat.mod_lt _ (by omega)
    have ej : j = j / 6 * 6 + j % 6 := by omega
    generalize j / 6 * 6 = b at *
    generalize j % 6 = m at *
    subst ej
    rcases (by omega : m = 0 ∨ m = 1 ∨ m = 2 ∨ m = 3 ∨ m = 4 ∨ m = 5) with rfl | rfl | rfl | rfl | rfl | rfl
    · rw [Nat.add_zero] at hu ⊢; rw [g0] at hu; injection hu with hu; subst hu; exact c0
    · rw [g1] at hu; injection hu with hu; subst hu; exact c1
    · rw [g2] at hu; injection hu with hu; subst hu; exact c2
    · rw [g3] at hu; injection hu with hu; subst hu; exact c3
    · rw [g4] at hu; injection hu with hu; subst hu; exact c4
    · rw [g5] at hu; injection hu with hu; subst hu; exact c5
  · obtain ⟨x, hx, rfl⟩ := List.mem_map.1 hq
    obtain ⟨i, hi, rfl⟩ := List.getElem_of_mem hx
    obtain ⟨_, _, _, _, _, _, _, _, _, h5⟩ := key i l[i] (by simp)
    exact h5
end Go.Proofs.YtdmejcfnolhplaaGreat.Proof

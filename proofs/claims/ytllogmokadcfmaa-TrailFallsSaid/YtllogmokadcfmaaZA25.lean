/-
  Some texts of this claim, one behind the other: TrailCells, TrailDo. What each proves, and its condition, stands at its head.
-/
import Derived.Test.YtllogmokadcfmaaZA20
import Derived.Test.YtllogmokadcfmaaZA24
import Derived.Test.YtllogmokadcfmaaZA23
import Derived.Test.YtllogmokadcfmaaZA2
/-
  Slices of entries of a trail in memory, of any type T of that form: as a call makes them; their terms' sets lie in rows of spans, or below a base. No condition.
-/
namespace Go.Proofs.Ytllogmokadcfmaa.Trail
open Go Go.RowKit Go.Lib Go.Proofs.Ytllogmokadcfmaa.Span Go.Proofs.Ytllogmokadcfmaa.Need Go.Proofs.Ytllogmokadcfmaa.Mani Go.Proofs.Ytllogmokadcfmaa.Grow Go.Proofs.Ytllogmokadcfmaa.Term
set_option linter.unusedVariables false
abbrev Re := ByteArray × Value × Bool × Int × Int
def ens : List Re → List Value
  | [] => []
  | r :: t => .string r.1 :: r.2.1 :: .bool r.2.2.1 :: .int .i64 r.2.2.2.1 :: .int .i64 r.2.2.2.2 :: ens t
theorem ens_length (l : List Re) : (ens l).length = l.length * 5 := by
  induction l with
  | nil => rfl
  | cons s t ih => simp [ens, ih]; omega
theorem ens_get (l : List Re) : ∀ (i : Nat) (r : Re), l[i]? = some r → (ens l)[i * 5]? = some (.string r.1) ∧ (ens l)[i * 5 + 1]? = some (r.2.1) ∧ (ens l)[i * 5 + 2]? = some (.bool r.2.2.1) ∧ (ens l)[i * 5 + 3]? = some (.int .i64 r.2.2.2.1) ∧ (ens l)[i * 5 + 4]? = some (.int .i64 r.2.2.2.2) := by
  induction l with
  | nil => intro i s h; simp at h
  | cons x t ih =>
    intro i s h
    cases i with
    | zero => simp at h; subst h; exact ⟨rfl, rfl, rfl, rfl, rfl⟩
    | succ i =>
      rw [List.getElem?_cons_succ] at h
      have := ih i s h
      have e : (i + 1) * 5 = i * 5 + 1 + 1 + 1 + 1 + 1 := by omega
      rw [e]
      refine ⟨this.1, ?_, ?_, ?_, ?_⟩
      · rw [show i * 5 + 1 + 1 + 1 + 1 + 1 + 1 = (i * 5 + 1) + 1 + 1 + 1 + 1 + 1 by omega]; exact this.2.1
      · rw [show i * 5 + 1 + 1 + 1 + 1 + 1 + 2 = (i * 5 + 2) + 1 + 1 + 1 + 1 + 1 by omega]; exact this.2.2.1
      · rw [show i * 5 + 1 + 1 + 1 + 1 + 1 + 3 = (i * 5 + 3) + 1 + 1 + 1 + 1 + 1 by omega]; exact this.2.2.2.1
      · rw [show i * 5 + 1 + 1 + 1 + 1 + 1 + 4 = (i * 5 + 4) + 1 + 1 + 1 + 1 + 1 by omega]; exact this.2.2.2.2
theorem addr_anyE (a : Addr) (i j : Nat) (hj : 0 < j) : a.add (i + j) = ⟨(a.add i).block, (a.add i).off + j, none⟩ := by
  unfold Addr.add
  by_cases hi : i = 0
  · subst hi; simp; intro h; omega
  · simp [hi]; omega
def AllE (w : World) (B : Nat) (rs : List Re) (l : List Ent) : Prop :=
  rs.length = l.length ∧ ∀ (i : Nat) (r : Re) (q : Ent), rs[i]? = some r → l[i]? = some q → r.1 = q.term.name ∧ r.2.2.1 = q.term.none ∧ r.2.2.2.1 = (q.level : Int) ∧ r.2.2.2.2 = q.cause ∧ ∃ A n c, r.2.1 = .slice A n c ∧ InS w B A n q.term.set
section
variable {w w' w1 : World} {B n m k : Nat} {v v1 : Value} {A : Option Addr} {rs rs2 : List Re} {l l2 : List Ent} {T : TypeId} {row : Option Nat}
def EnR (T : TypeId) (w : World) (B : Nat) (A : Option Addr) (n : Nat) (l : List Ent) : Prop :=
  ∃ rs, Reads w w.heap.size 5 A n (ens rs) ∧ AllE w B rs l ∧ ∀ ad, A = some ad → 0 < n → B ≤ ad.block ∧ ∃ cur m, w.heap[ad.block]? = some (.cells cur T m)
theorem EnR.len (h : EnR T w B A n l) : l.length = n := by
  obtain ⟨rs, h1, h2, _⟩ := h
  have := h1.1
  rw [ens_length] at this
  have := h2.1
  omega
theorem EnR.at_ (h : EnR T w B A n l) (hk : k < n) :
    ∃ ad q A' n' c', A = some ad ∧ ad.block < w.heap.size ∧ l[k]? = some q ∧ InS w B A' n' q.term.set ∧ w.cell? (ad.add (k * 5)) = some (.string q.term.name) ∧ w.cell? ⟨(ad.add (k * 5)).block, (ad.add (k * 5)).off + 1, none⟩ = some (.slice A' n' c') ∧ w.cell? ⟨(ad.add (k * 5)).block, (ad.add (k * 5)).off + 2, none⟩ = some (.bool q.term.none) ∧
      w.cell? ⟨(ad.add (k * 5)).block, (ad.add (k * 5)).off + 3, none⟩ = some (.int .i64 (q.level : Int)) ∧ w.cell? ⟨(ad.add (k * 5)).block, (ad.add (k * 5)).off + 4, none⟩ = some (.int .i64 q.cause) := by
  have hl := h.len
  obtain ⟨rs, h1, h2, h3⟩ := h
  obtain ⟨ad, hA, hb, hc⟩ := h1.2 (by omega)
  have hr : k < rs.length := by rw [h2.1]; omega
  obtain ⟨e1, e3, e4, e5, A', n', c', e2, hs⟩ := h2.2 k rs[k] (l[k]'(by omega)) (by simp) (by simp)
  obtain ⟨g1, g2, g3, g4, g5⟩ := ens_get rs k rs[k] (by simp)
  refine ⟨ad, l[k]'(by omega), A', n', c', hA, hb, by simp, hs, ?_, ?_, ?_, ?_, ?_⟩
  · rw [← e1]; exact hc _ _ g1
  · rw [← addr_anyE ad _ 1 (by omega), ← e2]; exact hc _ _ g2
  · rw [← addr_anyE ad _ 2 (by omega), ← e3]; exact hc _ _ g3
  · rw [← addr_anyE ad _ 3 (by omega), ← e4]; exact hc _ _ g4
  · rw [← addr_anyE ad _ 4 (by omega), ← e5]; exact hc _ _ g5
def Ens (T : TypeId) (w : World) (B0 B : Nat) (v : Value) (n : Nat) (rs : List Re) (l : List Ent) : Prop := w.ownsRow B T 5 v n (ens rs) ∧ AllE w B0 rs l
theorem Ens.len {B0 : Nat} (h : Ens T w B0 B v n rs l) : l.length = n := by
  have := h.1.1
  rw [ens_length] at this
  have := h.2.1
  omega
theorem Ens.told {B0 : Nat} (h : Ens T w B0 B v n rs l) (hB : B0 ≤ B) : ∃ A c, v = .slice A n c ∧ n ≤ c ∧ EnR T w B0 A n l := by
  obtain ⟨A, c, rfl, hc, _, hr⟩ := own_form h.1
  refine ⟨A, c, rfl, hc, rs, hr, h.2, fun ad hA hn => ?_⟩
  rcases h.1.2 with ⟨e, _⟩ | ⟨g, cap, cur, e, hB', hgg, _⟩
  · injection e with e1 e2 e3
    omega
  · injection e with e1 e2 e3
    rw [hA] at e1
    injection e1 with e1
    subst e1
    exact ⟨Nat.le_trans hB hB', cur, _, hgg⟩
end
end Go.Proofs.Ytllogmokadcfmaa.Trail
/-
  Slices of what is done to a trail, as they come in with a call. No condition.
-/
namespace Go.Proofs.Ytllogmokadcfmaa.Trail
open Go Go.RowKit Go.Lib Go.Proofs.Ytllogmokadcfmaa.Span Go.Proofs.Ytllogmokadcfmaa.Need Go.Proofs.Ytllogmokadcfmaa.Grow Go.Proofs.Ytllogmokadcfmaa.Term Go.Proofs.Ytllogmokadcfmaa.Clash
set_option linter.unusedVariables false
def DoOn (w : World) (A : Option Addr) (n : Nat) (l : List Dt) : Prop :=
  l.length = n ∧ ∀ (i : Nat) (q : Dt), l[i]? = some q → ∃ ad A' n' c', A = some ad ∧ ad.block < w.heap.size ∧ n' ≤ c' ∧ SpOn w A' n' q.term.set ∧ w.cell? (ad.add (i * 6)) = some (.int .i64 q.kind) ∧ w.cell? ⟨(ad.add (i * 6)).block, (ad.add (i * 6)).off + 1, none⟩ = some (.int .i64 q.ver) ∧ w.cell? ⟨(ad.add (i * 6)).block, (ad.add (i * 6)).off + 2, none⟩ = some (.int .i64 q.n) ∧
    w.cell? ⟨(ad.add (i * 6)).block, (ad.add (i * 6)).off + 3, none⟩ = some (.string q.term.name) ∧ w.cell? ⟨(ad.add (i * 6)).block, (ad.add (i * 6)).off + 4, none⟩ = some (.slice A' n' c') ∧ w.cell? ⟨(ad.add (i * 6)).block, (ad.add (i * 6)).off + 5, none⟩ = some (.bool q.term.none)
section
variable {w w' : World} {n k : Nat} {A : Option Addr} {l : List Dt}
theorem DoOn.at_ (h : DoOn w A n l) (hk : k < n) : ∃ ad q A' n' c', A = some ad ∧ ad.block < w.heap.size ∧ l[k]? = some q ∧ n' ≤ c' ∧ SpOn w A' n' q.term.set ∧ w.cell? (ad.add (k * 6)) = some (.int .i64 q.kind) ∧ w.cell? ⟨(ad.add (k * 6)).block, (ad.add (k * 6)).off + 1, none⟩ = some (.int .i64 q.ver) ∧ w.cell? ⟨(ad.add (k * 6)).block, (ad.add (k * 6)).off + 2, none⟩ = some (.int .i64 q.n) ∧
    w.cell? ⟨(ad.add (k * 6)).block, (ad.add (k * 6)).off + 3, none⟩ = some (.string q.term.name) ∧ w.cell? ⟨(ad.add (k * 6)).block, (ad.add (k * 6)).off + 4, none⟩ = some (.slice A' n' c') ∧ w.cell? ⟨(ad.add (k * 6)).block, (ad.add (k * 6)).off + 5, none⟩ = some (.bool q.term.none) := by
  have hl := h.1
  have hx : l[k]? = some (l[k]'(by omega)) := by simp
  obtain ⟨ad, A', n', c', h1, h2, h0, h3, h4, h5, h6, h7, h8, h9⟩ := h.2 k _ hx
  exact ⟨ad, _, A', n', c', h1, h2, hx, h0, h3, h4, h5, h6, h7, h8, h9⟩
theorem DoOn.on (h : DoOn w A n l) (hb : Below w.heap.size w w') : DoOn w' A n l := ⟨h.1, fun i q hq => by
  obtain ⟨ad, A', n', c', h1, h2, h0, h3, h4, h5, h6, h7, h8, h9⟩ := h.2 i q hq
  have hblk : ∀ j, (⟨(ad.add (i * 6)).block, j, none⟩ : Addr).block < w.heap.size := fun j => by simp only [block_of_add]; exact h2
  exact ⟨ad, A', n', c', h1, Nat.lt_of_lt_of_le h2 hb.size, h0, h3.on hb, (hb.cell (p := ad.add (i * 6)) (by rw [block_of_add]; exact h2)).trans h4, (hb.cell (hblk _)).trans h5, (hb.cell (hblk _)).trans h6, (hb.cell (hblk _)).trans h7, (hb.cell (hblk _)).trans h8, (hb.cell (hblk _)).trans h9⟩⟩
theorem DoOn.old (h : DoOn w A n l) (hb : Below w.heap.size w w') (hk : k < n) : ∃ ad q A' n' c', A = some ad ∧ ad.block < w.heap.size ∧ l[k]? = some q ∧ n' ≤ c' ∧ InS w' w.heap.size A' n' q.term.set ∧ w'.cell? (ad.add (k * 6)) = some (.int .i64 q.kind) ∧ w'.cell? ⟨(ad.add (k * 6)).block, (ad.add (k * 6)).off + 1, none⟩ = some (.int .i64 q.ver) ∧ w'.cell? ⟨(ad.add (k * 6)).block, (ad.add (k * 6)).off + 2, none⟩ = some (.int .i64 q.n) ∧
    w'.cell? ⟨(ad.add (k * 6)).block, (ad.add (k * 6)).off + 3, none⟩ = some (.string q.term.name) ∧ w'.cell? ⟨(ad.add (k * 6)).block, (ad.add (k * 6)).off + 4, none⟩ = some (.slice A' n' c') ∧ w'.cell? ⟨(ad.add (k * 6)).block, (ad.add (k * 6)).off + 5, none⟩ = some (.bool q.term.none) := by
  obtain ⟨ad, q, A', n', c', h1, h2, hx, h0, h3, h4, h5, h6, h7, h8, h9⟩ := h.at_ hk
  have hblk : ∀ j, (⟨(ad.add (k * 6)).block, j, none⟩ : Addr).block < w.heap.size := fun j => by simp only [block_of_add]; exact h2
  exact ⟨ad, q, A', n', c', h1, h2, hx, h0, (InS.of_in (B := w.heap.size) h3 (Nat.le_refl _)).below hb, (hb.cell (p := ad.add (k * 6)) (by rw [block_of_add]; exact h2)).trans h4, (hb.cell (hblk _)).trans h5, (hb.cell (hblk _)).trans h6, (hb.cell (hblk _)).trans h7, (hb.cell (hblk _)).trans h8, (hb.cell (hblk _)).trans h9⟩
theorem DoOn.len (h : DoOn w A n l) : l.length = n := h.1
end
abbrev Dq := Int × Int × Int × (ByteArray × List S × Bool)
def toDo (q : Dq) : Dt := ⟨q.1, q.2.1, q.2.2.1, toT q.2.2.2⟩
def lieDo : Lie Dq := liePair (lieInt .i64) (liePair (lieInt .i64) (liePair (lieInt .i64) (liePair lieStr (liePair (lieSlice (liePair (lieInt .i64) (lieInt .i64))) lieBool))))
theorem doOn_of {w : World} {A : Option Addr} {n : Nat} {l : List Dq} (h : RowOf lieDo w w.heap.size A n l) : DoOn w A n (l.map toDo) ∧ ∀ q ∈ l.map toDo, q.term.name.size ≤ maxLen ∧ q.term.set.length ≤ maxLen := by
  have key : ∀ (i : Nat) (q : Dq), l[i]? = some q → ∃ ad A' n' c', A = some ad ∧ ad.block < w.heap.size ∧ n' ≤ c' ∧ SpOn w A' n' (toDo q).term.set ∧ w.cell? (ad.add (i * 6)) = some (.int .i64 (toDo q).kind) ∧ w.cell? (ad.add (i * 6 + 1)) = some (.int .i64 (toDo q).ver) ∧ w.cell? (ad.add (i * 6 + 2)) = some (.int .i64 (toDo q).n) ∧ w.cell? (ad.add (i * 6 + 3)) = some (.string (toDo q).term.name) ∧ w.cell? (ad.add (i * 6 + 4)) = some (.slice A' n' c') ∧ w.cell? (ad.add (i * 6 + 5)) = some (.bool (toDo q).term.none) ∧ (toDo q).term.name.size ≤ maxLen ∧ (toDo q).term.set.length ≤ maxLen := by
    intro i q hq
    have hi : i < l.length := (List.getElem?_eq_some_iff.1 hq).1
    obtain ⟨ad, hA, hB, hc⟩ := h.2 (by have := h.1; omega)
    obtain ⟨cs, h1, c0, r0, e0, ⟨g0, _⟩, c1, r1, e1, ⟨g1, _⟩, c2, r2, e2, ⟨g2, _⟩, c3, r3, e3, ⟨g3, hs3⟩, c4, c5, e4, ⟨A', n', c', g4, hn, hm, _, hr⟩, g5⟩ := hc i q hq
    subst e0 e1 e2 e3 e4 g0 g1 g2 g3 g4 g5
    have x0 := h1 0 (by simp)
    have x1 := h1 1 (by simp)
    have x2 := h1 2 (by simp)
    have x3 := h1 3 (by simp)
    have x4 := h1 4 (by simp)
    have x5 := h1 5 (by simp)
    rw [add_of_add] at x0 x1 x2 x3 x4 x5
    refine ⟨ad, A', n', c', hA, hB, hn, spOn_of hr, by simpa [lieDo, liePair, lieInt, lieStr, lieSlice, lieBool, toDo, toT] using x0, by simpa [lieDo, liePair, lieInt, lieStr, lieSlice, lieBool, toDo, toT] using x1, by simpa [lieDo, liePair, lieInt, lieStr, lieSlice, lieBool, toDo, toT] using x2, by simpa [lieDo, liePair, lieInt, lieStr, lieSlice, lieBool, toDo, toT] using x3, by simpa [lieDo, liePair, lieInt, lieStr, lieSlice, lieBool, toDo, toT] using x4, by simpa [lieDo, liePair, lieInt, lieStr, lieSlice, lieBool, toDo, toT] using x5, hs3, ?_⟩
    have := (spOn_of hr).len
    simp only [toDo, toT]
    omega
  refine ⟨⟨by rw [List.length_map]; exact h.1, fun i q hq => ?_⟩, fun q hq => ?_⟩
  · rw [List.getElem?_map, Option.map_eq_some_iff] at hq
    obtain ⟨q', hq', rfl⟩ := hq
    obtain ⟨ad, A', n', c', h1, h2, h0, h3, h4, h5, h6, h7, h8, h9, _⟩ := key i q' hq'
    refine ⟨ad, A', n', c', h1, h2, h0, h3, h4, ?_, ?_, ?_, ?_, ?_⟩
    · rw [← addr_anyE ad _ 1 (by omega)]; exact h5
    · rw [← addr_anyE ad _ 2 (by omega)]; exact h6
    · rw [← addr_anyE ad _ 3 (by omega)]; exact h7
    · rw [← addr_anyE ad _ 4 (by omega)]; exact h8
    · rw [← addr_anyE ad _ 5 (by omega)]; exact h9
  · obtain ⟨q', hq', rfl⟩ := List.mem_map.1 hq
    obtain ⟨i, hi, rfl⟩ := List.getElem_of_mem hq'
    obtain ⟨_, _, _, _, _, _, _, _, _, _, _, _, _, _, h5, h6⟩ := key i l[i] (by simp)
    exact ⟨h5, h6⟩
end Go.Proofs.Ytllogmokadcfmaa.Trail

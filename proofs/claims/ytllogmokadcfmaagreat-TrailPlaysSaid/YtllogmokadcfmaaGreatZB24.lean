/-
  Some texts of this claim, one behind the other: FactCells. What each proves, and its condition, stands at its head.
-/
import Derived.Test.YtllogmokadcfmaaGreatZB23
import Derived.Test.YtllogmokadcfmaaGreatZB16
import Derived.Test.YtllogmokadcfmaaGreatZB8
/-
  Slices of terms whose rows' types are told (so that they stay where a row of another type is written); lists of clashes, and lists of steps, in memory: as they came in, and as a call makes them. No condition.
-/
namespace Go.Proofs.YtllogmokadcfmaaGreat.Fact
open Go Go.RowKit Go.Lib Go.Proofs.YtllogmokadcfmaaGreat.Span Go.Proofs.YtllogmokadcfmaaGreat.Need Go.Proofs.YtllogmokadcfmaaGreat.Mani Go.Proofs.YtllogmokadcfmaaGreat.Grow Go.Proofs.YtllogmokadcfmaaGreat.Term Go.Proofs.YtllogmokadcfmaaGreat.Clash
set_option linter.unusedVariables false
def TmR (w : World) (B : Nat) (A : Option Addr) (n : Nat) (l : List Tm) : Prop :=
  ∃ rs, Reads w B 3 A n (tms rs) ∧ FitsT w B rs l ∧ (∀ ad, A = some ad → 0 < n → ∃ cur m, w.heap[ad.block]? = some (.cells cur 38 m)) ∧ AllT w 0 rs l
section
variable {w w' wx : World} {B B' n k : Nat} {A : Option Addr} {l : List Tm}
theorem TmR.in_ (h : TmR w B A n l) : TmIn w B A n l := by obtain ⟨rs, h1, h2, _⟩ := h; exact ⟨rs, h1, h2⟩
theorem TmR.len (h : TmR w B A n l) : l.length = n := h.in_.len
theorem TmR.nil (w : World) (B : Nat) (A : Option Addr) : TmR w B A 0 [] := ⟨[], ⟨rfl, fun h => absurd h (by omega)⟩, ⟨rfl, fun i r q hr _ => by simp at hr⟩, fun _ _ h => absurd h (by omega), rfl, fun i r q hr _ => by simp at hr⟩
theorem TmR.at_ (h : TmR w B A n l) (hk : k < n) :
    ∃ ad q A' n' c', A = some ad ∧ ad.block < B ∧ l[k]? = some q ∧ SpIn w B A' n' q.set ∧ w.cell? (ad.add (k * 3)) = some (.string q.name) ∧ w.cell? ⟨(ad.add (k * 3)).block, (ad.add (k * 3)).off + 1, none⟩ = some (.slice A' n' c') ∧ w.cell? ⟨(ad.add (k * 3)).block, (ad.add (k * 3)).off + 2, none⟩ = some (.bool q.none) ∧ InS w 0 A' n' q.set := by
  have hl := h.len
  obtain ⟨rs, h1, h2, h3, h4⟩ := h
  obtain ⟨ad, hA, hb, hc⟩ := h1.2 (by omega)
  have hr : k < rs.length := by rw [h2.1]; omega
  obtain ⟨e1, e3, A', n', c', e2, hs⟩ := h2.2 k rs[k] (l[k]'(by omega)) (by simp) (by simp)
  obtain ⟨_, _, A2, n2, c2, e4, hs2⟩ := h4.2 k rs[k] (l[k]'(by omega)) (by simp) (by simp)
  rw [e2] at e4
  injection e4 with f1 f2 f3
  subst f1 f2 f3
  obtain ⟨g1, g2, g3⟩ := tms_get rs k rs[k] (by simp)
  refine ⟨ad, l[k]'(by omega), A', n', c', hA, hb, by simp, hs, ?_, ?_, ?_, hs2⟩
  · rw [← e1]; exact hc _ _ g1
  · rw [← add_field, ← e2]; exact hc _ _ g2
  · rw [← add_two, ← e3]; exact hc _ _ g3
end
def TmsR (w : World) (B : Nat) (v : Value) (n : Nat) (rs : List Rt) (l : List Tm) : Prop := w.ownsRow B 38 3 v n (tms rs) ∧ AllT w 0 rs l
section
variable {w w' w1 w2 : World} {B n m : Nat} {v v1 x : Value} {rs rs2 : List Rt} {l l2 out : List Tm} {t : Tm}
theorem TmsR.len (h : TmsR w B v n rs l) : l.length = n := by
  have := h.1.1
  rw [tms_length] at this
  have := h.2.1
  omega
theorem TmsR.told (h : TmsR w B v n rs l) : ∃ A c, v = .slice A n c ∧ n ≤ c ∧ TmR w w.heap.size A n l := by
  obtain ⟨A, c, rfl, hc, _, hr⟩ := own_form h.1
  refine ⟨A, c, rfl, hc, rs, hr, ⟨h.2.1, fun i r q hr hq => ?_⟩, fun ad hA hn => ?_, h.2⟩
  · obtain ⟨e1, e3, A, n, c, e2, hs⟩ := h.2.2 i r q hr hq
    exact ⟨e1, e3, A, n, c, e2, hs.1⟩
  · rcases h.1.2 with ⟨e, _⟩ | ⟨g, cap, cur, e, hB, hgg, _⟩
    · injection e with e1 e2 e3
      omega
    · injection e with e1 e2 e3
      rw [hA] at e1
      injection e1 with e1
      subst e1
      exact ⟨cur, _, hgg⟩
end
/-! Lists of clashes. -/
def FcIn (w : World) (B : Nat) (A : Option Addr) (n : Nat) (L : List (List Tm)) : Prop :=
  ∃ vs : List Value, Reads w B 1 A n vs ∧ vs.length = L.length ∧ ∀ (i : Nat) (v : Value) (c : List Tm), vs[i]? = some v → L[i]? = some c → ∃ A' n' c', v = .slice A' n' c' ∧ TmIn w B A' n' c
section
variable {w w' w1 : World} {B B' n m k : Nat} {A : Option Addr} {L L2 : List (List Tm)} {v v1 : Value} {vs vs2 : List Value}
theorem FcIn.len (h : FcIn w B A n L) : L.length = n := by
  obtain ⟨vs, h1, h2, _⟩ := h
  have := h1.1
  omega
theorem FcIn.at_ (h : FcIn w B A n L) (hk : k < n) : ∃ ad c A' n' c', A = some ad ∧ ad.block < B ∧ L[k]? = some c ∧ TmIn w B A' n' c ∧ w.cell? (ad.add k) = some (.slice A' n' c') := by
  have hl := h.len
  obtain ⟨vs, h1, h2, h3⟩ := h
  obtain ⟨ad, hA, hb, hc⟩ := h1.2 (by omega)
  have hr : k < vs.length := by rw [h2]; omega
  obtain ⟨A', n', c', e, ht⟩ := h3 k vs[k] (L[k]'(by omega)) (by simp) (by simp)
  refine ⟨ad, L[k]'(by omega), A', n', c', hA, hb, by simp, ht, ?_⟩
  rw [← e]
  exact hc k _ (by simp)
theorem FcIn.nil (w : World) (B : Nat) (A : Option Addr) : FcIn w B A 0 [] := ⟨[], ⟨rfl, fun h => absurd h (by omega)⟩, rfl, fun i v c hv _ => by simp at hv⟩
def AllF (w : World) (vs : List Value) (L : List (List Tm)) : Prop := vs.length = L.length ∧ ∀ (i : Nat) (v : Value) (c : List Tm), vs[i]? = some v → L[i]? = some c → ∃ A' n' c', v = .slice A' n' c' ∧ TmR w w.heap.size A' n' c
theorem AllF.mono (h : AllF w vs L) (hk : ∀ A n l, TmR w w.heap.size A n l → TmR w' w'.heap.size A n l) : AllF w' vs L := ⟨h.1, fun i v c hv hc => by
  obtain ⟨A', n', c', e, ht⟩ := h.2 i v c hv hc
  exact ⟨A', n', c', e, hk _ _ _ ht⟩⟩
def Fcs (w : World) (B : Nat) (v : Value) (n : Nat) (vs : List Value) (L : List (List Tm)) : Prop := w.ownsRow B 23 1 v n vs ∧ AllF w vs L
theorem Fcs.told (h : Fcs w B v n vs L) : ∃ A c, v = .slice A n c ∧ n ≤ c ∧ FcIn w w.heap.size A n L := by
  obtain ⟨A, c, rfl, hc, _, hr⟩ := own_form h.1
  exact ⟨A, c, rfl, hc, vs, hr, h.2.1, fun i v c hv hc => by
    obtain ⟨A', n', c', e, ht⟩ := h.2.2 i v c hv hc
    exact ⟨A', n', c', e, ht.in_⟩⟩
end
/-! Lists of steps. -/
abbrev Sp := Proof.Sp
def sps : List Sp → List Value
  | [] => []
  | q :: t => .int .i64 q.kind :: .string q.name :: .int .i64 q.ver :: .string q.dest :: .int .i64 q.a :: .int .i64 q.b :: sps t
theorem sps_length (l : List Sp) : (sps l).length = l.length * 6 := by
  induction l with
  | nil => rfl
  | cons s t ih => simp [sps, ih]; omega
theorem sps_get (l : List Sp) : ∀ (i : Nat) (q : Sp), l[i]? = some q → (sps l)[i * 6]? = some (.int .i64 q.kind) ∧ (sps l)[i * 6 + 1]? = some (.string q.name) ∧ (sps l)[i * 6 + 2]? = some (.int .i64 q.ver) ∧ (sps l)[i * 6 + 3]? = some (.string q.dest) ∧ (sps l)[i * 6 + 4]? = some (.int .i64 q.a) ∧ (sps l)[i * 6 + 5]? = some (.int .i64 q.b) := by
  induction l with
  | nil => intro i s h; simp at h
  | cons x t ih =>
    intro i s h
    cases i with
    | zero => simp at h; subst h; exact ⟨rfl, rfl, rfl, rfl, rfl, rfl⟩
    | succ i =>
      rw [List.getElem?_cons_succ] at h
      have := ih i s h
      have e : (i + 1) * 6 = i * 6 + 1 + 1 + 1 + 1 + 1 + 1 := by omega
      rw [e]
      refine ⟨this.1, ?_, ?_, ?_, ?_, ?_⟩
      · rw [show i * 6 + 1 + 1 + 1 + 1 + 1 + 1 + 1 = (i * 6 + 1) + 1 + 1 + 1 + 1 + 1 + 1 by omega]; exact this.2.1
      · rw [show i * 6 + 1 + 1 + 1 + 1 + 1 + 1 + 2 = (i * 6 + 2) + 1 + 1 + 1 + 1 + 1 + 1 by omega]; exact this.2.2.1
      · rw [show i * 6 + 1 + 1 + 1 + 1 + 1 + 1 + 3 = (i * 6 + 3) + 1 + 1 + 1 + 1 + 1 + 1 by omega]; exact this.2.2.2.1
      · rw [show i * 6 + 1 + 1 + 1 + 1 + 1 + 1 + 4 = (i * 6 + 4) + 1 + 1 + 1 + 1 + 1 + 1 by omega]; exact this.2.2.2.2.1
      · rw [show i * 6 + 1 + 1 + 1 + 1 + 1 + 1 + 5 = (i * 6 + 5) + 1 + 1 + 1 + 1 + 1 + 1 by omega]; exact this.2.2.2.2.2
def SsIn (w : World) (B : Nat) (A : Option Addr) (n : Nat) (l : List Sp) : Prop := Reads w B 6 A n (sps l)
section
variable {w w' w1 : World} {B B' n m k : Nat} {A : Option Addr} {l : List Sp} {v v1 : Value}
theorem SsIn.len (h : SsIn w B A n l) : l.length = n := by
  have := h.1
  rw [sps_length] at this
  omega
theorem addr_any (a : Addr) (i j : Nat) (hj : 0 < j) : a.add (i + j) = ⟨(a.add i).block, (a.add i).off + j, none⟩ := by
  unfold Addr.add
  by_cases hi : i = 0
  · subst hi; simp; intro h; omega
  · simp [hi]; omega
theorem SsIn.at_ (h : SsIn w B A n l) (hk : k < n) :
    ∃ ad q, A = some ad ∧ ad.block < B ∧ l[k]? = some q ∧ w.cell? (ad.add (k * 6)) = some (.int .i64 q.kind) ∧ w.cell? ⟨(ad.add (k * 6)).block, (ad.add (k * 6)).off + 1, none⟩ = some (.string q.name) ∧ w.cell? ⟨(ad.add (k * 6)).block, (ad.add (k * 6)).off + 2, none⟩ = some (.int .i64 q.ver) ∧
      w.cell? ⟨(ad.add (k * 6)).block, (ad.add (k * 6)).off + 3, none⟩ = some (.string q.dest) ∧ w.cell? ⟨(ad.add (k * 6)).block, (ad.add (k * 6)).off + 4, none⟩ = some (.int .i64 q.a) ∧ w.cell? ⟨(ad.add (k * 6)).block, (ad.add (k * 6)).off + 5, none⟩ = some (.int .i64 q.b) := by
  have hl := h.len
  obtain ⟨ad, hA, hb, hc⟩ := h.2 (by omega)
  have hk2 : k < l.length := by omega
  obtain ⟨g0, g1, g2, g3, g4, g5⟩ := sps_get l k l[k] (by simp)
  refine ⟨ad, l[k], hA, hb, by simp, hc _ _ g0, ?_, ?_, ?_, ?_, ?_⟩
  · rw [← addr_any ad _ 1 (by omega)]; exact hc _ _ g1
  · rw [← addr_any ad _ 2 (by omega)]; exact hc _ _ g2
  · rw [← addr_any ad _ 3 (by omega)]; exact hc _ _ g3
  · rw [← addr_any ad _ 4 (by omega)]; exact hc _ _ g4
  · rw [← addr_any ad _ 5 (by omega)]; exact hc _ _ g5
theorem SsIn.nil (w : World) (B : Nat) (A : Option Addr) : SsIn w B A 0 [] := ⟨rfl, fun h => absurd h (by omega)⟩
end
end Go.Proofs.YtllogmokadcfmaaGreat.Fact

/-
  Some texts of this claim, one behind the other: TermCells, ClashCells, ClashTwin. What each proves, and its condition, stands at its head.
-/
import Derived.Test.YtllogmokadcfmaaZA6
import Derived.Test.YtllogmokadcfmaaZA3
import Derived.Test.YtllogmokadcfmaaZA21
import Derived.Test.YtllogmokadcfmaaZA7
import Derived.Test.YtllogmokadcfmaaZA22
import Derived.Test.YtllogmokadcfmaaZA8
import Derived.Test.YtllogmokadcfmaaZA4
/-
  Terms in memory: a term that a call makes (its set in a row of the call's own), what is stored of one; how a term is written. No condition.
-/
namespace Go.Proofs.Ytllogmokadcfmaa.Term
open Go Go.RowKit Go.Lib Go.Proofs.Ytllogmokadcfmaa.Span Go.Proofs.Ytllogmokadcfmaa.Need Go.Proofs.Ytllogmokadcfmaa.Grow
open Go.Proofs.Ytllogmokadcfmaa.Label (runes fitL)
set_option linter.unusedVariables false
def MakesT (w : World) (t : Tm) (e : Ending) (w' : World) : Prop :=
  ∃ A n c, e = .returned (.agg #[.string t.name, .slice A n c, .bool t.none]) ∧ NewS w' w.heap.size A n c t.set ∧ Below w.heap.size w w'
theorem on_new {w : World} {B n c : Nat} {A : Option Addr} {l : List S} (h : NewS w B A n c l) : SpOn w A n l := h.2.2.2
theorem slice_d (A : Option Addr) (n c : Nat) : Value.slice A n c ≠ undef := by intro h; cases h
def setR (B : Nat) (l : List S) : Rel := fun w v => ∃ A n c, v = .slice A n c ∧ NewS w B A n c l
theorem setR_stable (B : Nat) (l : List S) : ∀ w w' v, Below w.heap.size w w' → setR B l w v → setR B l w' v := fun _ _ _ hb ⟨A, n, c, hv, hn⟩ => ⟨A, n, c, hv, hn.below hb⟩
theorem far_new {w : World} {B n c : Nat} {A : Option Addr} {l : List S} (h : NewS w B A n c l) {p : Addr} (hp : p.block < B) (v : Value) : NewS (w.setCell p v) B A n c l := by
  obtain ⟨A', c', e, hN⟩ := newS_of_own (ownsRow_setCell_below h.2.2.1 hp v)
  injection e with e1 e2 e3
  subst e1 e3
  exact hN
theorem stored_blk {w : World} {g B : Nat} {t : Tm} {A : Option Addr} {n c : Nat} {cs : Array Value} (h : Blk w g 29 cs) (h3 : cs.size = 3) (hN : NewS w B A n c t.set) (hg : g < B) :
    Blk (((w.setCell ⟨g, 0, none⟩ (.string t.name)).setCell ⟨g, 1, none⟩ (.slice A n c)).setCell ⟨g, 2, none⟩ (.bool t.none)) g 29 #[.string t.name, .slice A n c, .bool t.none] ∧
      NewS (((w.setCell ⟨g, 0, none⟩ (.string t.name)).setCell ⟨g, 1, none⟩ (.slice A n c)).setCell ⟨g, 2, none⟩ (.bool t.none)) B A n c t.set := by
  have hb := ((h.set_ 0 (.string t.name)).set_ 1 (.slice A n c)).set_ 2 (.bool t.none)
  have e : ((cs.setIfInBounds 0 (.string t.name)).setIfInBounds 1 (.slice A n c)).setIfInBounds 2 (.bool t.none) = #[.string t.name, .slice A n c, .bool t.none] := by
    apply Array.ext
    · simp [h3]
    · intro i h1 h2
      have : i < 3 := by simpa [h3] using h1
      rcases i with _ | _ | _ | i
      · simp [h3]
      · simp [h3]
      · simp
      · omega
  rw [e] at hb
  exact ⟨hb, far_new (far_new (far_new hN (by exact hg) _) (by exact hg) _) (by exact hg) _⟩
/-! How a term is written. -/
end Go.Proofs.Ytllogmokadcfmaa.Term
/-
  Slices of terms in memory: what came in with a call, and what the call makes. No condition.
-/
namespace Go.Proofs.Ytllogmokadcfmaa.Clash
open Go Go.RowKit Go.Lib Go.Proofs.Ytllogmokadcfmaa.Span Go.Proofs.Ytllogmokadcfmaa.Need Go.Proofs.Ytllogmokadcfmaa.Grow Go.Proofs.Ytllogmokadcfmaa.Term
set_option linter.unusedVariables false
theorem info_term : (Try.prog.info? 29).map (fun i => (i.zero, i.size, i.bytes)) = some (some (.agg #[.string ByteArray.empty, .slice none 0 0, .bool false]), 3, 48) := by kernel_rfl
abbrev Rt := ByteArray × Value × Bool
def tms : List Rt → List Value
  | [] => []
  | r :: t => .string r.1 :: r.2.1 :: .bool r.2.2 :: tms t
theorem tms_length (l : List Rt) : (tms l).length = l.length * 3 := by
  induction l with
  | nil => rfl
  | cons s t ih => simp [tms, ih]; omega
theorem tms_append (l m : List Rt) : tms (l ++ m) = tms l ++ tms m := by
  induction l with
  | nil => rfl
  | cons s t ih => simp [tms, ih]
theorem tms_one (l : List Rt) (h : ∀ r ∈ l, ∃ A n c, r.2.1 = .slice A n c) : ∀ u ∈ tms l, u.oneCell' = true := by
  induction l with
  | nil => intro u hu; cases hu
  | cons s t ih =>
    intro u hu
    simp only [tms, List.mem_cons] at hu
    rcases hu with rfl | rfl | rfl | hu
    · rfl
    · obtain ⟨A, n, c, e⟩ := h s (by simp)
      rw [e]; rfl
    · rfl
    · exact ih (fun r hr => h r (by simp [hr])) u hu
theorem tms_get (l : List Rt) : ∀ (i : Nat) (r : Rt), l[i]? = some r → (tms l)[i * 3]? = some (.string r.1) ∧ (tms l)[i * 3 + 1]? = some r.2.1 ∧ (tms l)[i * 3 + 2]? = some (.bool r.2.2) := by
  induction l with
  | nil => intro i s h; simp at h
  | cons x t ih =>
    intro i s h
    cases i with
    | zero => simp at h; subst h; exact ⟨rfl, rfl, rfl⟩
    | succ i =>
      rw [List.getElem?_cons_succ] at h
      have := ih i s h
      rw [show (i + 1) * 3 = i * 3 + 1 + 1 + 1 by omega, show i * 3 + 1 + 1 + 1 + 1 = (i * 3 + 1) + 1 + 1 + 1 by omega, show i * 3 + 1 + 1 + 1 + 2 = (i * 3 + 2) + 1 + 1 + 1 by omega]
      exact this
def FitsT (w : World) (B : Nat) (rs : List Rt) (l : List Tm) : Prop :=
  rs.length = l.length ∧ ∀ (i : Nat) (r : Rt) (q : Tm), rs[i]? = some r → l[i]? = some q → r.1 = q.name ∧ r.2.2 = q.none ∧ ∃ A n c, r.2.1 = .slice A n c ∧ SpIn w B A n q.set
def TmIn (w : World) (B : Nat) (A : Option Addr) (n : Nat) (l : List Tm) : Prop := ∃ rs, Reads w B 3 A n (tms rs) ∧ FitsT w B rs l
section
variable {w w' : World} {B B' n k : Nat} {A : Option Addr} {l : List Tm}
theorem TmIn.len (h : TmIn w B A n l) : l.length = n := by
  obtain ⟨rs, h1, h2⟩ := h
  have := h1.1
  rw [tms_length] at this
  have := h2.1
  omega
theorem add_two (a : Addr) (i : Nat) : a.add (i + 2) = ⟨(a.add i).block, (a.add i).off + 2, none⟩ := by
  unfold Addr.add
  by_cases hi : i = 0
  · subst hi; simp
  · simp [hi]; omega
theorem TmIn.at_ (h : TmIn w B A n l) (hk : k < n) :
    ∃ ad q A' n' c', A = some ad ∧ ad.block < B ∧ l[k]? = some q ∧ SpIn w B A' n' q.set ∧ w.cell? (ad.add (k * 3)) = some (.string q.name) ∧ w.cell? ⟨(ad.add (k * 3)).block, (ad.add (k * 3)).off + 1, none⟩ = some (.slice A' n' c') ∧ w.cell? ⟨(ad.add (k * 3)).block, (ad.add (k * 3)).off + 2, none⟩ = some (.bool q.none) := by
  have hl := h.len
  obtain ⟨rs, h1, h2⟩ := h
  obtain ⟨ad, hA, hb, hc⟩ := h1.2 (by omega)
  have hr : k < rs.length := by rw [h2.1]; omega
  obtain ⟨e1, e3, A', n', c', e2, hs⟩ := h2.2 k rs[k] (l[k]'(by omega)) (by simp) (by simp)
  obtain ⟨g1, g2, g3⟩ := tms_get rs k rs[k] (by simp)
  refine ⟨ad, l[k]'(by omega), A', n', c', hA, hb, by simp, hs, ?_, ?_, ?_⟩
  · rw [← e1]; exact hc _ _ g1
  · rw [← add_field, ← e2]; exact hc _ _ g2
  · rw [← add_two, ← e3]; exact hc _ _ g3
theorem FitsT.below {rs : List Rt} (h : FitsT w B rs l) (hb : Below B w w') : FitsT w' B rs l :=
  ⟨h.1, fun i r q hr hq => by
    obtain ⟨e1, e3, A', n', c', e2, hs⟩ := h.2 i r q hr hq
    exact ⟨e1, e3, A', n', c', e2, hs.below hb⟩⟩
theorem FitsT.more {rs : List Rt} (h : FitsT w B rs l) (hb : B ≤ B') : FitsT w B' rs l :=
  ⟨h.1, fun i r q hr hq => by
    obtain ⟨e1, e3, A', n', c', e2, hs⟩ := h.2 i r q hr hq
    exact ⟨e1, e3, A', n', c', e2, hs.more hb⟩⟩
theorem TmIn.below (h : TmIn w B A n l) (hb : Below B w w') : TmIn w' B A n l := by
  obtain ⟨rs, h1, h2⟩ := h
  exact ⟨rs, h1.below hb, h2.below hb⟩
theorem TmIn.more (h : TmIn w B A n l) (hb : B ≤ B') : TmIn w B' A n l := by
  obtain ⟨rs, h1, h2⟩ := h
  exact ⟨rs, h1.more hb, h2.more hb⟩
theorem TmIn.nil (w : World) (B : Nat) (A : Option Addr) : TmIn w B A 0 [] := ⟨[], ⟨rfl, fun h => absurd h (by omega)⟩, rfl, fun i r q hr _ => by simp at hr⟩
end
def TmOn (w : World) (A : Option Addr) (n : Nat) (l : List Tm) : Prop := TmIn w w.heap.size A n l
theorem TmOn.on {w w' : World} {A : Option Addr} {n : Nat} {l : List Tm} (h : TmOn w A n l) (hb : Below w.heap.size w w') : TmOn w' A n l := (TmIn.below h hb).more hb.size
def toT (q : ByteArray × List S × Bool) : Tm := ⟨q.1, q.2.1, q.2.2⟩
/-! What a call makes. -/
theorem inS_grown {w w' : World} {B B0 n m size : Nat} {A : Option Addr} {l : List S} {v : Value} {xs : List Value} {T : TypeId} (h : InS w B A n l) (hown : w.ownsRow B0 T size v m xs) (hB0 : B ≤ B0) (hT : 43 ≠ T) (hg : w.grownBy w' v.ownBlock) : InS w' B A n l := by
  have key : ∀ ad, A = some ad → 0 < n → ad.block < w.heap.size ∧ some ad.block ≠ v.ownBlock := by
    intro ad hA hn
    obtain ⟨ad', hA', hlt, _⟩ := h.1.2 hn
    rw [hA] at hA'
    injection hA' with hA'
    subst hA'
    refine ⟨hlt, fun e => ?_⟩
    rcases hown.2 with ⟨rfl, _⟩ | ⟨g, cap, cur, rfl, hB, hgg, _⟩
    · cases e
    · simp only [Value.ownBlock, Option.some.injEq] at e
      rcases h.2 ad hA hn with h1 | ⟨cur', m', h1⟩
      · omega
      · rw [e, hgg] at h1
        injection h1 with h1
        injection h1 with _ h1 _
        exact hT h1.symm
  refine ⟨⟨h.1.1, fun hn => ?_⟩, fun ad hA hn => ?_⟩
  · obtain ⟨ad, hA, hlt, hc⟩ := h.1.2 hn
    have hk := key ad hA hn
    refine ⟨ad, hA, Nat.lt_of_lt_of_le hlt hg.size, fun i s hs => ?_⟩
    obtain ⟨c1, c2⟩ := hc i s hs
    have hb := hg.block _ hk.1 hk.2
    constructor
    · exact (World.cell?_of_block (by rw [block_of_add]; exact hb)).trans c1
    · exact (World.cell?_of_block (by simp only [block_of_add]; exact hb)).trans c2
  · have hk := key ad hA hn
    rcases h.2 ad hA hn with h1 | ⟨cur, m, h1⟩
    · exact .inl h1
    · exact .inr ⟨cur, m, (hg.block _ hk.1 hk.2).trans h1⟩
def AllT (w : World) (B : Nat) (rs : List Rt) (l : List Tm) : Prop :=
  rs.length = l.length ∧ ∀ (i : Nat) (r : Rt) (q : Tm), rs[i]? = some r → l[i]? = some q → r.1 = q.name ∧ r.2.2 = q.none ∧ ∃ A n c, r.2.1 = .slice A n c ∧ InS w B A n q.set
section
variable {w w' w1 : World} {B n m : Nat} {v v1 : Value} {rs rs2 : List Rt} {l l2 : List Tm}
theorem AllT.mono (h : AllT w B rs l) (hk : ∀ A n s, InS w B A n s → InS w' B A n s) : AllT w' B rs l :=
  ⟨h.1, fun i r q hr hq => by
    obtain ⟨e1, e3, A, n, c, e2, hs⟩ := h.2 i r q hr hq
    exact ⟨e1, e3, A, n, c, e2, hk _ _ _ hs⟩⟩
theorem AllT.append (h : AllT w B rs l) (h2 : AllT w B rs2 l2) : AllT w B (rs ++ rs2) (l ++ l2) :=
  ⟨by simp [h.1, h2.1], fun i r q hr hq => by
    rcases Nat.lt_or_ge i rs.length with hi | hi
    · rw [List.getElem?_append_left hi] at hr
      rw [List.getElem?_append_left (by rw [← h.1]; exact hi)] at hq
      exact h.2 i r q hr hq
    · rw [List.getElem?_append_right hi] at hr
      rw [List.getElem?_append_right (by rw [← h.1]; exact hi), ← h.1] at hq
      exact h2.2 _ r q hr hq⟩
theorem AllT.one {nm : ByteArray} {A : Option Addr} {k c : Nat} {s : List S} {z : Bool} (h : InS w B A k s) : AllT w B [(nm, .slice A k c, z)] [⟨nm, s, z⟩] :=
  ⟨rfl, fun i r q hr hq => by
    rcases i with _ | i
    · simp at hr hq
      subst hr hq
      exact ⟨rfl, rfl, A, k, c, rfl, h⟩
    · simp at hr⟩
def Tms (w : World) (B : Nat) (v : Value) (n : Nat) (rs : List Rt) (l : List Tm) : Prop := w.ownsRow B 29 3 v n (tms rs) ∧ AllT w B rs l
theorem Tms.below (h : Tms w B v n rs l) (hb : Below w.heap.size w w') : Tms w' B v n rs l := ⟨own_below h.1 hb, h.2.mono fun _ _ _ hs => hs.below hb⟩
theorem Tms.cat (h : Tms w B v n rs l) (h2 : AllT w B rs2 l2) (h1 : w1.ownsRow B 29 3 v1 m (tms rs ++ tms rs2)) (hg : w.grownBy w1 v.ownBlock) : Tms w1 B v1 m (rs ++ rs2) (l ++ l2) :=
  ⟨by rw [tms_append]; exact h1, (h.2.append h2).mono fun _ _ _ hs => inS_grown hs h.1 (Nat.le_refl _) (by decide) hg⟩
theorem Tms.len (h : Tms w B v n rs l) : l.length = n := by
  have := h.1.1
  rw [tms_length] at this
  have := h.2.1
  omega
theorem Tms.told (h : Tms w B v n rs l) : ∃ A c, v = .slice A n c ∧ n ≤ c ∧ TmIn w w.heap.size A n l := by
  obtain ⟨A, c, rfl, hc, _, hr⟩ := own_form h.1
  exact ⟨A, c, rfl, hc, rs, hr, h.2.1, fun i r q hr hq => by
    obtain ⟨e1, e3, A, n, c, e2, hs⟩ := h.2.2 i r q hr hq
    exact ⟨e1, e3, A, n, c, e2, hs.1⟩⟩
theorem reads_term (w : World) (nm : ByteArray) (A : Option Addr) (n c : Nat) (z : Bool) (T : TypeId) (g : Nat) (hg : g = w.heap.size) :
    Reads (w.alloc (.cells #[.string nm, .slice A n c, .bool z] T)) (w.heap.size + 1) 3 (some ⟨g, 0, none⟩) 1 (tms [(nm, .slice A n c, z)]) := by
  subst hg
  have h := Reads.newL w T #[.string nm, .slice A n c, .bool z]
  exact ⟨rfl, fun _ => h.2 (by simp)⟩
theorem one_term (nm : ByteArray) (A : Option Addr) (n c : Nat) (z : Bool) : ∀ u ∈ tms [(nm, .slice A n c, z)], u.oneCell' = true := tms_one _ fun r hr => by
  rw [List.mem_singleton.1 hr]
  exact ⟨A, n, c, rfl⟩
end
/-! Words for a region that makes a term and appends it. -/
section
variable {B n : Nat} {rs : List Rt} {x v : Value} {t : Tm} {w w1 w2 : World} {out : List Tm}
end
end Go.Proofs.Ytllogmokadcfmaa.Clash
/-
  Plain mathematics of clashes, as loops reckon them: which may be, what is put to what, how long sets become, what terms come to, how a clash is written. No program.
-/
namespace Go.Proofs.Ytllogmokadcfmaa.Clash
open Go.RowKit Go.Lib Go.Proofs.Ytllogmokadcfmaa.Span Go.Proofs.Ytllogmokadcfmaa.Need Go.Proofs.Ytllogmokadcfmaa.Pick Go.Proofs.Ytllogmokadcfmaa.Term
open Go.Proofs.Ytllogmokadcfmaa.Label (runes fitL)
set_option linter.unusedVariables false
instance : DecidableEq Tm := fun a b =>
  if h : a.name = b.name ∧ a.none = b.none ∧ a.set = b.set then isTrue (by
    obtain ⟨n, s, z⟩ := a
    obtain ⟨n', s', z'⟩ := b
    obtain ⟨h1, h2, h3⟩ := h
    simp only at h1 h2 h3
    subst h1 h2 h3
    rfl) else isFalse (fun e => h (by rw [e]; exact ⟨rfl, rfl, rfl⟩))
end Go.Proofs.Ytllogmokadcfmaa.Clash

/-
  Some texts of this claim, one behind the other: TermCells, ClashCells, ClashTwin. What each proves, and its condition, stands at its head.
-/
import Derived.Test.YtllogmokadcfmaaGreatZB6
import Derived.Test.YtllogmokadcfmaaGreatZB3
import Derived.Test.YtllogmokadcfmaaGreatZB21
import Derived.Test.YtllogmokadcfmaaGreatZB7
import Derived.Test.YtllogmokadcfmaaGreatZB22
import Derived.Test.YtllogmokadcfmaaGreatZB8
import Derived.Test.YtllogmokadcfmaaGreatZB4
/-
  Terms in memory: a term that a call makes (its set in a row of the call's own), what is stored of one; how a term is written. No condition.
-/
namespace Go.Proofs.YtllogmokadcfmaaGreat.Term
open Go Go.RowKit Go.Lib Go.Proofs.YtllogmokadcfmaaGreat.Span Go.Proofs.YtllogmokadcfmaaGreat.Need Go.Proofs.YtllogmokadcfmaaGreat.Grow
open Go.Proofs.YtllogmokadcfmaaGreat.Label (runes fitL)
set_option linter.unusedVariables false
def MakesT (w : World) (t : Tm) (e : Ending) (w' : World) : Prop :=
  ∃ A n c, e = .returned (.agg #[.string t.name, .slice A n c, .bool t.none]) ∧ NewS w' w.heap.size A n c t.set ∧ Below w.heap.size w w'
theorem on_new {w : World} {B n c : Nat} {A : Option Addr} {l : List S} (h : NewS w B A n c l) : SpOn w A n l := h.2.2.2
theorem agg_d (l : Array Value) : Value.agg l ≠ undef := by intro h; cases h
theorem slice_d (A : Option Addr) (n c : Nat) : Value.slice A n c ≠ undef := by intro h; cases h
def setR (B : Nat) (l : List S) : Rel := fun w v => ∃ A n c, v = .slice A n c ∧ NewS w B A n c l
theorem setR_stable (B : Nat) (l : List S) : ∀ w w' v, Below w.heap.size w w' → setR B l w v → setR B l w' v := fun _ _ _ hb ⟨A, n, c, hv, hn⟩ => ⟨A, n, c, hv, hn.below hb⟩
def tmR (B : Nat) (t : Tm) : Rel := fun w v => ∃ A n c, v = .agg #[.string t.name, .slice A n c, .bool t.none] ∧ NewS w B A n c t.set
theorem tmR_stable (B : Nat) (t : Tm) : ∀ w w' v, Below w.heap.size w w' → tmR B t w v → tmR B t w' v := fun _ _ _ hb ⟨A, n, c, hv, hn⟩ => ⟨A, n, c, hv, hn.below hb⟩
def storesT (g B : Nat) (t : Tm) : Wr := fun w1 _ w2 => ∃ A n c, NewS w1 B A n c t.set ∧ w2 = ((w1.setCell ⟨g, 0, none⟩ (.string t.name)).setCell ⟨g, 1, none⟩ (.slice A n c)).setCell ⟨g, 2, none⟩ (.bool t.none)
theorem far_new {w : World} {B n c : Nat} {A : Option Addr} {l : List S} (h : NewS w B A n c l) {p : Addr} (hp : p.block < B) (v : Value) : NewS (w.setCell p v) B A n c l := by
  obtain ⟨A', c', e, hN⟩ := newS_of_own (ownsRow_setCell_below h.2.2.1 hp v)
  injection e with e1 e2 e3
  subst e1 e3
  exact hN
theorem stored_blk {w : World} {g B : Nat} {t : Tm} {A : Option Addr} {n c : Nat} {cs : Array Value} (h : Blk w g 38 cs) (h3 : cs.size = 3) (hN : NewS w B A n c t.set) (hg : g < B) :
    Blk (((w.setCell ⟨g, 0, none⟩ (.string t.name)).setCell ⟨g, 1, none⟩ (.slice A n c)).setCell ⟨g, 2, none⟩ (.bool t.none)) g 38 #[.string t.name, .slice A n c, .bool t.none] ∧
      NewS (((w.setCell ⟨g, 0, none⟩ (.string t.name)).setCell ⟨g, 1, none⟩ (.slice A n c)).setCell ⟨g, 2, none⟩ (.bool t.none)) B A n c t.set := by
  have hb := ((h.set_ 0 (.string t.name)).set_ 1 (.slice A n c)).set_ 2 (.bool t.none)
  have e : ((cs.setIfInBounds 0 (.string t.name)).setIfInBounds 1 (.slice A n c)).setIfInBounds 2 (.bool t.none) = #[.string t.name, .slice A n c, .bool t.none] := by
    apply Array.ext
    · simp [h3]
    · intro i h1 h2
      have : i < 3 := by simpa [h3] using h1
      rcases i with _ | _ | _ | i
      · simp [h3]
      · simp [h3]
      · simp
      · omega
  rw [e] at hb
  exact ⟨hb, far_new (far_new (far_new hN (by exact hg) _) (by exact hg) _) (by exact hg) _⟩
def spR (L : List S) : Rel := fun w v => ∃ A n c, v = .slice A n c ∧ SpOn w A n L
theorem spR_stable (L : List S) : ∀ w w' v, Below w.heap.size w w' → spR L w v → spR L w' v := fun _ _ _ hb ⟨A, n, c, hv, h⟩ => ⟨A, n, c, hv, h.on hb⟩
/-! How a term is written. -/
end Go.Proofs.YtllogmokadcfmaaGreat.Term
/-
  Slices of terms in memory: what came in with a call, and what the call makes. No condition.
-/
namespace Go.Proofs.YtllogmokadcfmaaGreat.Clash
open Go Go.RowKit Go.Lib Go.Proofs.YtllogmokadcfmaaGreat.Span Go.Proofs.YtllogmokadcfmaaGreat.Need Go.Proofs.YtllogmokadcfmaaGreat.Grow Go.Proofs.YtllogmokadcfmaaGreat.Term
set_option linter.unusedVariables false
abbrev Rt := ByteArray × Value × Bool
def tms : List Rt → List Value
  | [] => []
  | r :: t => .string r.1 :: r.2.1 :: .bool r.2.2 :: tms t
theorem tms_length (l : List Rt) : (tms l).length = l.length * 3 := by
  induction l with
  | nil => rfl
  | cons s t ih => simp [tms, ih]; omega
theorem tms_get (l : List Rt) : ∀ (i : Nat) (r : Rt), l[i]? = some r → (tms l)[i * 3]? = some (.string r.1) ∧ (tms l)[i * 3 + 1]? = some r.2.1 ∧ (tms l)[i * 3 + 2]? = some (.bool r.2.2) := by
  induction l with
  | nil => intro i s h; simp at h
  | cons x t ih =>
    intro i s h
    cases i with
    | zero => simp at h; subst h; exact ⟨rfl, rfl, rfl⟩
    | succ i =>
      rw [List.getElem?_cons_succ] at h
      have := ih i s h
      rw [show (i + 1) * 3 = i * 3 + 1 + 1 + 1 by omega, show i * 3 + 1 + 1 + 1 + 1 = (i * 3 + 1) + 1 + 1 + 1 by omega, show i * 3 + 1 + 1 + 1 + 2 = (i * 3 + 2) + 1 + 1 + 1 by omega]
      exact this
def FitsT (w : World) (B : Nat) (rs : List Rt) (l : List Tm) : Prop :=
  rs.length = l.length ∧ ∀ (i : Nat) (r : Rt) (q : Tm), rs[i]? = some r → l[i]? = some q → r.1 = q.name ∧ r.2.2 = q.none ∧ ∃ A n c, r.2.1 = .slice A n c ∧ SpIn w B A n q.set
def TmIn (w : World) (B : Nat) (A : Option Addr) (n : Nat) (l : List Tm) : Prop := ∃ rs, Reads w B 3 A n (tms rs) ∧ FitsT w B rs l
section
variable {w w' : World} {B B' n k : Nat} {A : Option Addr} {l : List Tm}
theorem TmIn.len (h : TmIn w B A n l) : l.length = n := by
  obtain ⟨rs, h1, h2⟩ := h
  have := h1.1
  rw [tms_length] at this
  have := h2.1
  omega
theorem add_two (a : Addr) (i : Nat) : a.add (i + 2) = ⟨(a.add i).block, (a.add i).off + 2, none⟩ := by
  unfold Addr.add
  by_cases hi : i = 0
  · subst hi; simp
  · simp [hi]; omega
theorem TmIn.at_ (h : TmIn w B A n l) (hk : k < n) :
    ∃ ad q A' n' c', A = some ad ∧ ad.block < B ∧ l[k]? = some q ∧ SpIn w B A' n' q.set ∧ w.cell? (ad.add (k * 3)) = some (.string q.name) ∧ w.cell? ⟨(ad.add (k * 3)).block, (ad.add (k * 3)).off + 1, none⟩ = some (.slice A' n' c') ∧ w.cell? ⟨(ad.add (k * 3)).block, (ad.add (k * 3)).off + 2, none⟩ = some (.bool q.none) := by
  have hl := h.len
  obtain ⟨rs, h1, h2⟩ := h
  obtain ⟨ad, hA, hb, hc⟩ := h1.2 (by omega)
  have hr : k < rs.length := by rw [h2.1]; omega
  obtain ⟨e1, e3, A', n', c', e2, hs⟩ := h2.2 k rs[k] (l[k]'(by omega)) (by simp) (by simp)
  obtain ⟨g1, g2, g3⟩ := tms_get rs k rs[k] (by simp)
  refine ⟨ad, l[k]'(by omega), A', n', c', hA, hb, by simp, hs, ?_, ?_, ?_⟩
  · rw [← e1]; exact hc _ _ g1
  · rw [← add_field, ← e2]; exact hc _ _ g2
  · rw [← add_two, ← e3]; exact hc _ _ g3
theorem FitsT.below {rs : List Rt} (h : FitsT w B rs l) (hb : Below B w w') : FitsT w' B rs l :=
  ⟨h.1, fun i r q hr hq => by
    obtain ⟨e1, e3, A', n', c', e2, hs⟩ := h.2 i r q hr hq
    exact ⟨e1, e3, A', n', c', e2, hs.below hb⟩⟩
theorem FitsT.more {rs : List Rt} (h : FitsT w B rs l) (hb : B ≤ B') : FitsT w B' rs l :=
  ⟨h.1, fun i r q hr hq => by
    obtain ⟨e1, e3, A', n', c', e2, hs⟩ := h.2 i r q hr hq
    exact ⟨e1, e3, A', n', c', e2, hs.more hb⟩⟩
theorem TmIn.below (h : TmIn w B A n l) (hb : Below B w w') : TmIn w' B A n l := by
  obtain ⟨rs, h1, h2⟩ := h
  exact ⟨rs, h1.below hb, h2.below hb⟩
theorem TmIn.more (h : TmIn w B A n l) (hb : B ≤ B') : TmIn w B' A n l := by
  obtain ⟨rs, h1, h2⟩ := h
  exact ⟨rs, h1.more hb, h2.more hb⟩
theorem TmIn.nil (w : World) (B : Nat) (A : Option Addr) : TmIn w B A 0 [] := ⟨[], ⟨rfl, fun h => absurd h (by omega)⟩, rfl, fun i r q hr _ => by simp at hr⟩
end
def TmOn (w : World) (A : Option Addr) (n : Nat) (l : List Tm) : Prop := TmIn w w.heap.size A n l
theorem TmOn.on {w w' : World} {A : Option Addr} {n : Nat} {l : List Tm} (h : TmOn w A n l) (hb : Below w.heap.size w w') : TmOn w' A n l := (TmIn.below h hb).more hb.size
def toT (q : ByteArray × List S × Bool) : Tm := ⟨q.1, q.2.1, q.2.2⟩
theorem tmOn_of {w : World} {A : Option Addr} {n : Nat} {l : List (ByteArray × List S × Bool)} (h : RowOf (liePair lieStr (liePair (lieSlice (liePair (lieInt .i64) (lieInt .i64))) lieBool)) w w.heap.size A n l) :
    TmOn w A n (l.map toT) ∧ ∀ q ∈ l.map toT, q.name.size ≤ maxLen ∧ q.set.length ≤ maxLen := by
  have key : ∀ i (q : ByteArray × List S × Bool), l[i]? = some q → ∃ ad A' n' c', A = some ad ∧ ad.block < w.heap.size ∧ CellsAt w (ad.add (i * 3)) [.string q.1, .slice A' n' c', .bool q.2.2] ∧ q.1.size ≤ maxLen ∧ q.2.1.length ≤ maxLen ∧ SpOn w A' n' q.2.1 := by
    intro i q hq
    have hi : i < l.length := (List.getElem?_eq_some_iff.1 hq).1
    obtain ⟨ad, hA, hB, hc⟩ := h.2 (by have := h.1; omega)
    obtain ⟨cs, h1, c1, c2, e, ⟨e1, hs⟩, c3, c4, e3, ⟨A', n', c', e2, hn, hm, _, hr⟩, e4⟩ := hc i q hq
    subst e e1 e3 e2 e4
    refine ⟨ad, A', n', c', hA, hB, h1, hs, ?_, spOn_of hr⟩
    have := (spOn_of hr).len
    omega
  have hq : ∀ q ∈ l.map toT, q.name.size ≤ maxLen ∧ q.set.length ≤ maxLen := by
    intro q hq
    obtain ⟨q', hq', rfl⟩ := List.mem_map.1 hq
    obtain ⟨i, hi, rfl⟩ := List.getElem_of_mem hq'
    obtain ⟨_, _, _, _, _, _, _, h5, h6, _⟩ := key i l[i] (by simp)
    exact ⟨h5, h6⟩
  refine ⟨?_, hq⟩
  obtain ⟨f, hf⟩ : ∃ f : Nat → Value, ∀ i (q : ByteArray × List S × Bool), l[i]? = some q → ∃ ad A' n' c', A = some ad ∧ f i = .slice A' n' c' ∧ CellsAt w (ad.add (i * 3)) [.string q.1, f i, .bool q.2.2] ∧ SpOn w A' n' q.2.1 := by
    have ex : ∀ i, ∃ v : Value, ∀ q, l[i]? = some q → ∃ ad A' n' c', A = some ad ∧ v = .slice A' n' c' ∧ CellsAt w (ad.add (i * 3)) [.string q.1, v, .bool q.2.2] ∧ SpOn w A' n' q.2.1 := by
      intro i
      cases hx : l[i]? with
      | none => exact ⟨undef, fun q hq => by cases hq⟩
      | some q =>
        obtain ⟨ad, A', n', c', hA, _, hc, _, _, hs⟩ := key i q hx
        refine ⟨.slice A' n' c', fun q' hq' => ?_⟩
        injection hq' with hq'
        subst hq'
        exact ⟨ad, A', n', c', hA, rfl, hc, hs⟩
    exact ⟨fun i => Classical.choose (ex i), fun i => Classical.choose_spec (ex i)⟩
  have hget : ∀ i (q : ByteArray × List S × Bool), l[i]? = some q → ((List.range l.length).map fun i => (((l[i]?.map Prod.fst).getD ByteArray.empty, f i, (l[i]?.map fun q => q.2.2).getD false) : Rt))[i]? = some (q.1, f i, q.2.2) := by
    intro i q hq
    have hi : i < l.length := (List.getElem?_eq_some_iff.1 hq).1
    rw [List.getElem?_map, List.getElem?_range hi]
    simp only [Option.map_some, hq, Option.getD_some]
  refine ⟨(List.range l.length).map fun i => ((l[i]?.map Prod.fst).getD ByteArray.empty, f i, (l[i]?.map fun q => q.2.2).getD false), ⟨by rw [tms_length]; simp [h.1], fun hn => ?_⟩, by simp, fun i r q hr hq => ?_⟩
  · obtain ⟨ad, hA, hB, _⟩ := h.2 hn
    refine ⟨ad, hA, hB, fun j u hu => ?_⟩
    have hj : j < l.length * 3 := by
      have := (List.getElem?_eq_some_iff.1 hu).1
      rw [tms_length] at this
      simpa using this
    have hi : j / 3 < l.length := by omega
    obtain ⟨ad', A', n', c', hA', e, hc, _⟩ := hf (j / 3) l[j / 3] (by simp)
    rw [hA] at hA'
    injection hA' with hA'
    subst hA'
    obtain ⟨g1, g2, g3⟩ := tms_get _ (j / 3) _ (hget (j / 3) l[j / 3] (by simp))
    have h3 : j % 3 = 0 ∨ j % 3 = 1 ∨ j % 3 = 2 := by omega
    rcases h3 with h0 | h0 | h0
    · have ej : j = j / 3 * 3 := by omega
      rw [ej, g1] at hu
      injection hu with hu
      subst hu
      have := hc 0 (by simp)
      rw [add_of_add, Nat.add_zero, ← ej] at this
      simpa using this
    · have ej : j = j / 3 * 3 + 1 := by omega
      rw [ej, g2] at hu
      injection hu with hu
      subst hu
      have := hc 1 (by simp)
      rw [add_of_add, ← ej] at this
      simpa using this
    · have ej : j = j / 3 * 3 + 2 := by omega
      rw [ej, g3] at hu
      injection hu with hu
      subst hu
      have := hc 2 (by simp)
      rw [add_of_add, ← ej] at this
      simpa using this
  · rw [List.getElem?_map, Option.map_eq_some_iff] at hq
    obtain ⟨q', hq', rfl⟩ := hq
    rw [hget i q' hq'] at hr
    injection hr with hr
    subst hr
    obtain ⟨ad', A', n', c', hA', e, hc, hs⟩ := hf i q' hq'
    exact ⟨rfl, rfl, A', n', c', e, hs⟩
/-! What a call makes. -/
def AllT (w : World) (B : Nat) (rs : List Rt) (l : List Tm) : Prop :=
  rs.length = l.length ∧ ∀ (i : Nat) (r : Rt) (q : Tm), rs[i]? = some r → l[i]? = some q → r.1 = q.name ∧ r.2.2 = q.none ∧ ∃ A n c, r.2.1 = .slice A n c ∧ InS w B A n q.set
section
variable {w w' w1 : World} {B n m : Nat} {v v1 : Value} {rs rs2 : List Rt} {l l2 : List Tm}
theorem AllT.mono (h : AllT w B rs l) (hk : ∀ A n s, InS w B A n s → InS w' B A n s) : AllT w' B rs l :=
  ⟨h.1, fun i r q hr hq => by
    obtain ⟨e1, e3, A, n, c, e2, hs⟩ := h.2 i r q hr hq
    exact ⟨e1, e3, A, n, c, e2, hk _ _ _ hs⟩⟩
theorem AllT.one {nm : ByteArray} {A : Option Addr} {k c : Nat} {s : List S} {z : Bool} (h : InS w B A k s) : AllT w B [(nm, .slice A k c, z)] [⟨nm, s, z⟩] :=
  ⟨rfl, fun i r q hr hq => by
    rcases i with _ | i
    · simp at hr hq
      subst hr hq
      exact ⟨rfl, rfl, A, k, c, rfl, h⟩
    · simp at hr⟩
def Tms (w : World) (B : Nat) (v : Value) (n : Nat) (rs : List Rt) (l : List Tm) : Prop := w.ownsRow B 38 3 v n (tms rs) ∧ AllT w B rs l
theorem Tms.len (h : Tms w B v n rs l) : l.length = n := by
  have := h.1.1
  rw [tms_length] at this
  have := h.2.1
  omega
theorem Tms.told (h : Tms w B v n rs l) : ∃ A c, v = .slice A n c ∧ n ≤ c ∧ TmIn w w.heap.size A n l := by
  obtain ⟨A, c, rfl, hc, _, hr⟩ := own_form h.1
  exact ⟨A, c, rfl, hc, rs, hr, h.2.1, fun i r q hr hq => by
    obtain ⟨e1, e3, A, n, c, e2, hs⟩ := h.2.2 i r q hr hq
    exact ⟨e1, e3, A, n, c, e2, hs.1⟩⟩
end
/-! Words for a region that makes a term and appends it. -/
section
variable {B n : Nat} {rs : List Rt} {x v : Value} {t : Tm} {w w1 w2 : World} {out : List Tm}
end
end Go.Proofs.YtllogmokadcfmaaGreat.Clash
/-
  Plain mathematics of clashes, as loops reckon them: which may be, what is put to what, how long sets become, what terms come to, how a clash is written. No program.
-/
namespace Go.Proofs.YtllogmokadcfmaaGreat.Clash
open Go.RowKit Go.Lib Go.Proofs.YtllogmokadcfmaaGreat.Span Go.Proofs.YtllogmokadcfmaaGreat.Need Go.Proofs.YtllogmokadcfmaaGreat.Pick Go.Proofs.YtllogmokadcfmaaGreat.Term
open Go.Proofs.YtllogmokadcfmaaGreat.Label (runes fitL)
set_option linter.unusedVariables false
instance : DecidableEq Tm := fun a b =>
  if h : a.name = b.name ∧ a.none = b.none ∧ a.set = b.set then isTrue (by
    obtain ⟨n, s, z⟩ := a
    obtain ⟨n', s', z'⟩ := b
    obtain ⟨h1, h2, h3⟩ := h
    simp only at h1 h2 h3
    subst h1 h2 h3
    rfl) else isFalse (fun e => h (by rw [e]; exact ⟨rfl, rfl, rfl⟩))
def inC (t : Tm) : Bool := okT t && (!fullT t && !emptyT t)
def okCQ : ByteArray → List Tm → Bool
  | _, [] => true
  | a, t :: r => (nlt a t.name && inC t) && okCQ t.name r
def okC (l : List Tm) : Bool := okCQ ByteArray.empty l
theorem okCQ_drop {l : List Tm} {a : ByteArray} {i : Nat} {t : Tm} (h : l[i]? = some t) : okCQ a (l.drop i) = ((nlt a t.name && inC t) && okCQ t.name (l.drop (i + 1))) := by
  obtain ⟨hi, e⟩ := List.getElem?_eq_some_iff.1 h
  rw [List.drop_eq_getElem_cons hi, e]
  rfl
theorem okCQ_all {l : List Tm} : ∀ {a : ByteArray}, okCQ a l = true → ∀ t ∈ l, nlt a t.name = true ∧ inC t = true := by
  induction l with
  | nil => intro a _ t ht; cases ht
  | cons x r ih =>
    intro a h t ht
    simp only [okCQ, Bool.and_eq_true] at h
    obtain ⟨⟨h1, h2⟩, h5⟩ := h
    rcases List.mem_cons.1 ht with rfl | ht
    · exact ⟨h1, h2⟩
    · obtain ⟨g1, g2⟩ := ih h5 t ht
      exact ⟨nlt_trans h1 g1, g2⟩
theorem okCQ_rises {l : List Tm} : ∀ {a : ByteArray}, okCQ a l = true → RisesC l := by
  induction l with
  | nil => intro a _; exact List.Pairwise.nil
  | cons x r ih =>
    intro a h
    simp only [okCQ, Bool.and_eq_true] at h
    exact List.pairwise_cons.2 ⟨fun q hq => (okCQ_all h.2 q hq).1, ih h.2⟩
theorem okCQ_of {l : List Tm} : ∀ {a : ByteArray}, RisesC l → (∀ t ∈ l, nlt a t.name = true) → (∀ t ∈ l, inC t = true) → okCQ a l = true := by
  induction l with
  | nil => intro a _ _ _; rfl
  | cons x r ih =>
    intro a hr ha hf
    obtain ⟨h1, h2⟩ := List.pairwise_cons.1 hr
    simp only [okCQ, Bool.and_eq_true]
    exact ⟨⟨ha x (by simp), hf x (by simp)⟩, ih h2 h1 fun q hq => hf q (by simp [hq])⟩
theorem inC_iff {t : Tm} : inC t = true ↔ okT t = true ∧ fullT t = false ∧ emptyT t = false := by
  unfold inC
  simp only [Bool.and_eq_true, Bool.not_eq_true']
theorem okT_fit {t : Tm} (h : okT t = true) : fitL (runes t.name 0) = true := by unfold okT at h; simp only [Bool.and_eq_true] at h; exact h.1
theorem okT_set {t : Tm} (h : okT t = true) : isSet (-1) t.set = true := by unfold okT at h; simp only [Bool.and_eq_true] at h; exact h.2
theorem okC_iff {l : List Tm} : okC l = true ↔ OkC l :=
  ⟨fun h => ⟨okCQ_rises h, fun t ht => inC_iff.1 (okCQ_all h t ht).2⟩, fun ⟨h1, h2⟩ => okCQ_of h1 (fun t ht => empty_lt (fit_some (okT_fit (h2 t ht).1))) fun t ht => inC_iff.2 (h2 t ht)⟩
def sumC (l : List Tm) : Nat := (l.map fun t => t.set.length).sum
theorem sumC_mem {l : List Tm} {t : Tm} (h : t ∈ l) : t.set.length ≤ sumC l := by
  induction l with
  | nil => cases h
  | cons x r ih =>
    unfold sumC at *
    simp only [List.map_cons, List.sum_cons]
    rcases List.mem_cons.1 h with rfl | h
    · omega
    · have := ih h; omega
theorem sumC_cons (t : Tm) (l : List Tm) : sumC (t :: l) = t.set.length + sumC l := by unfold sumC; simp
theorem sumC_le {l : List Tm} {k : Nat} (h : ∀ t ∈ l, t.set.length ≤ k) : sumC l ≤ k * l.length := by
  induction l with
  | nil => simp [sumC]
  | cons x r ih =>
    have := ih fun t ht => h t (by simp [ht])
    have := h x (by simp)
    rw [sumC_cons, List.length_cons, Nat.mul_succ]
    omega
end Go.Proofs.YtllogmokadcfmaaGreat.Clash

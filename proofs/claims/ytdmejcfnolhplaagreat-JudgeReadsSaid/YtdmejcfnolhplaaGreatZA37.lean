/-
  Some texts of this claim, one behind the other: TermCells, ClashCells, ClashTwin, TermTold, ClashMapM. What each proves, and its condition, stands at its head.
-/
import Derived.Test.YtdmejcfnolhplaaGreatZA17
import Derived.Test.YtdmejcfnolhplaaGreatZA11
import Derived.Test.YtdmejcfnolhplaaGreatZA13
import Derived.Test.YtdmejcfnolhplaaGreatZA18
import Derived.Test.YtdmejcfnolhplaaGreatZA3
import Derived.Test.YtdmejcfnolhplaaGreatZA19
import Derived.Test.YtdmejcfnolhplaaGreatZA12
import Derived.Test.YtdmejcfnolhplaaGreatZA14
import Derived.Test.YtdmejcfnolhplaaGreatZA20
/-
  Terms in memory: a term that a call makes (its set in a row of the call's own), what is stored of one; how a term is written. No condition.
-/
namespace Go.Proofs.YtdmejcfnolhplaaGreat.Term
open Go Go.RowKit Go.Lib Go.Proofs.YtdmejcfnolhplaaGreat.Span Go.Proofs.YtdmejcfnolhplaaGreat.Need Go.Proofs.YtdmejcfnolhplaaGreat.Grow
open Go.Proofs.YtdmejcfnolhplaaGreat.Label (runes fitL)
set_option linter.unusedVariables false
def MakesT (w : World) (t : Tm) (e : Ending) (w' : World) : Prop :=
  ∃ A n c, e = .returned (.agg #[.string t.name, .slice A n c, .bool t.none]) ∧ NewS w' w.heap.size A n c t.set ∧ Below w.heap.size w w'
theorem on_new {w : World} {B n c : Nat} {A : Option Addr} {l : List S} (h : NewS w B A n c l) : SpOn w A n l := h.2.2.2
theorem agg_d (l : Array Value) : Value.agg l ≠ undef := by intro h; cases h
theorem slice_d (A : Option Addr) (n c : Nat) : Value.slice A n c ≠ undef := by intro h; cases h
def setR (B : Nat) (l : List S) : Rel := fun w v => ∃ A n c, v = .slice A n c ∧ NewS w B A n c l
theorem setR_stable (B : Nat) (l : List S) : ∀ w w' v, Below w.heap.size w w' → setR B l w v → setR B l w' v := fun _ _ _ hb ⟨A, n, c, hv, hn⟩ => ⟨A, n, c, hv, hn.below hb⟩
def tmR (B : Nat) (t : Tm) : Rel := fun w v => ∃ A n c, v = .agg #[.string t.name, .slice A n c, .bool t.none] ∧ NewS w B A n c t.set
theorem tmR_stable (B : Nat) (t : Tm) : ∀ w w' v, Below w.heap.size w w' → tmR B t w v → tmR B t w' v := fun _ _ _ hb ⟨A, n, c, hv, hn⟩ => ⟨A, n, c, hv, hn.below hb⟩
def storesT (g B : Nat) (t : Tm) : Wr := fun w1 _ w2 => ∃ A n c, NewS w1 B A n c t.set ∧ w2 = ((w1.setCell ⟨g, 0, none⟩ (.string t.name)).setCell ⟨g, 1, none⟩ (.slice A n c)).setCell ⟨g, 2, none⟩ (.bool t.none)
theorem far_new {w : World} {B n c : Nat} {A : Option Addr} {l : List S} (h : NewS w B A n c l) {p : Addr} (hp : p.block < B) (v : Value) : NewS (w.setCell p v) B A n c l := by
  obtain ⟨A', c', e, hN⟩ := newS_of_own (ownsRow_setCell_below h.2.2.1 hp v)
  injection e with e1 e2 e3
  subst e1 e3
  exact hN
def spR (L : List S) : Rel := fun w v => ∃ A n c, v = .slice A n c ∧ SpOn w A n L
theorem spR_stable (L : List S) : ∀ w w' v, Below w.heap.size w w' → spR L w v → spR L w' v := fun _ _ _ hb ⟨A, n, c, hv, h⟩ => ⟨A, n, c, hv, h.on hb⟩
/-! How a term is written. -/
end Go.Proofs.YtdmejcfnolhplaaGreat.Term
/-
  Slices of terms in memory: what came in with a call, and what the call makes. No condition.
-/
namespace Go.Proofs.YtdmejcfnolhplaaGreat.Clash
open Go Go.RowKit Go.Lib Go.Proofs.YtdmejcfnolhplaaGreat.Span Go.Proofs.YtdmejcfnolhplaaGreat.Need Go.Proofs.YtdmejcfnolhplaaGreat.Grow Go.Proofs.YtdmejcfnolhplaaGreat.Term
set_option linter.unusedVariables false
theorem info_term : (Tryz.prog.info? 77).map (fun i => (i.zero, i.size, i.bytes)) = some (some (.agg #[.string ByteArray.empty, .slice none 0 0, .bool false]), 3, 48) := by kernel_rfl
abbrev Rt := ByteArray × Value × Bool
def tms : List Rt → List Value
  | [] => []
  | r :: t => .string r.1 :: r.2.1 :: .bool r.2.2 :: tms t
theorem tms_length (l : List Rt) : (tms l).length = l.length * 3 := by
  induction l with
  | nil => rfl
  | cons s t ih => simp [tms, ih]; omega
theorem tms_append (l m : List Rt) : tms (l ++ m) = tms l ++ tms m := by
  induction l with
  | nil => rfl
  | cons s t ih => simp [tms, ih]
theorem tms_one (l : List Rt) (h : ∀ r ∈ l, ∃ A n c, r.2.1 = .slice A n c) : ∀ u ∈ tms l, u.oneCell' = true := by
  induction l with
  | nil => intro u hu; cases hu
  | cons s t ih =>
    intro u hu
    simp only [tms, List.mem_cons] at hu
    rcases hu with rfl | rfl | rfl | hu
    · rfl
    · obtain ⟨A, n, c, e⟩ := h s (by simp)
      rw [e]; rfl
    · rfl
    · exact ih (fun r hr => h r (by simp [hr])) u hu
theorem tms_get (l : List Rt) : ∀ (i : Nat) (r : Rt), l[i]? = some r → (tms l)[i * 3]? = some (.string r.1) ∧ (tms l)[i * 3 + 1]? = some r.2.1 ∧ (tms l)[i * 3 + 2]? = some (.bool r.2.2) := by
  induction l with
  | nil => intro i s h; simp at h
  | cons x t ih =>
    intro i s h
    cases i with
    | zero => simp at h; subst h; exact ⟨rfl, rfl, rfl⟩
    | succ i =>
      rw [List.getElem?_cons_succ] at h
      have := ih i s h
      rw [show (i + 1) * 3 = i * 3 + 1 + 1 + 1 by omega, show i * 3 + 1 + 1 + 1 + 1 = (i * 3 + 1) + 1 + 1 + 1 by omega, show i * 3 + 1 + 1 + 1 + 2 = (i * 3 + 2) + 1 + 1 + 1 by omega]
      exact this
def FitsT (w : World) (B : Nat) (rs : List Rt) (l : List Tm) : Prop :=
  rs.length = l.length ∧ ∀ (i : Nat) (r : Rt) (q : Tm), rs[i]? = some r → l[i]? = some q → r.1 = q.name ∧ r.2.2 = q.none ∧ ∃ A n c, r.2.1 = .slice A n c ∧ SpIn w B A n q.set
def TmIn (w : World) (B : Nat) (A : Option Addr) (n : Nat) (l : List Tm) : Prop := ∃ rs, Reads w B 3 A n (tms rs) ∧ FitsT w B rs l
section
variable {w w' : World} {B B' n k : Nat} {A : Option Addr} {l : List Tm}
theorem TmIn.len (h : TmIn w B A n l) : l.length = n := by
  obtain ⟨rs, h1, h2⟩ := h
  have := h1.1
  rw [tms_length] at this
  have := h2.1
  omega
theorem add_two (a : Addr) (i : Nat) : a.add (i + 2) = ⟨(a.add i).block, (a.add i).off + 2, none⟩ := by
  unfold Addr.add
  by_cases hi : i = 0
  · subst hi; simp
  · simp [hi]; omega
theorem TmIn.at_ (h : TmIn w B A n l) (hk : k < n) :
    ∃ ad q A' n' c', A = some ad ∧ ad.block < B ∧ l[k]? = some q ∧ SpIn w B A' n' q.set ∧ w.cell? (ad.add (k * 3)) = some (.string q.name) ∧ w.cell? ⟨(ad.add (k * 3)).block, (ad.add (k * 3)).off + 1, none⟩ = some (.slice A' n' c') ∧ w.cell? ⟨(ad.add (k * 3)).block, (ad.add (k * 3)).off + 2, none⟩ = some (.bool q.none) := by
  have hl := h.len
  obtain ⟨rs, h1, h2⟩ := h
  obtain ⟨ad, hA, hb, hc⟩ := h1.2 (by omega)
  have hr : k < rs.length := by rw [h2.1]; omega
  obtain ⟨e1, e3, A', n', c', e2, hs⟩ := h2.2 k rs[k] (l[k]'(by omega)) (by simp) (by simp)
  obtain ⟨g1, g2, g3⟩ := tms_get rs k rs[k] (by simp)
  refine ⟨ad, l[k]'(by omega), A', n', c', hA, hb, by simp, hs, ?_, ?_, ?_⟩
  · rw [← e1]; exact hc _ _ g1
  · rw [← add_field, ← e2]; exact hc _ _ g2
  · rw [← add_two, ← e3]; exact hc _ _ g3
theorem FitsT.below {rs : List Rt} (h : FitsT w B rs l) (hb : Below B w w') : FitsT w' B rs l :=
  ⟨h.1, fun i r q hr hq => by
    obtain ⟨e1, e3, A', n', c', e2, hs⟩ := h.2 i r q hr hq
    exact ⟨e1, e3, A', n', c', e2, hs.below hb⟩⟩
theorem FitsT.more {rs : List Rt} (h : FitsT w B rs l) (hb : B ≤ B') : FitsT w B' rs l :=
  ⟨h.1, fun i r q hr hq => by
    obtain ⟨e1, e3, A', n', c', e2, hs⟩ := h.2 i r q hr hq
    exact ⟨e1, e3, A', n', c', e2, hs.more hb⟩⟩
theorem TmIn.below (h : TmIn w B A n l) (hb : Below B w w') : TmIn w' B A n l := by
  obtain ⟨rs, h1, h2⟩ := h
  exact ⟨rs, h1.below hb, h2.below hb⟩
theorem TmIn.more (h : TmIn w B A n l) (hb : B ≤ B') : TmIn w B' A n l := by
  obtain ⟨rs, h1, h2⟩ := h
  exact ⟨rs, h1.more hb, h2.more hb⟩
theorem TmIn.nil (w : World) (B : Nat) (A : Option Addr) : TmIn w B A 0 [] := ⟨[], ⟨rfl, fun h => absurd h (by omega)⟩, rfl, fun i r q hr _ => by simp at hr⟩
end
def TmOn (w : World) (A : Option Addr) (n : Nat) (l : List Tm) : Prop := TmIn w w.heap.size A n l
theorem TmOn.on {w w' : World} {A : Option Addr} {n : Nat} {l : List Tm} (h : TmOn w A n l) (hb : Below w.heap.size w w') : TmOn w' A n l := (TmIn.below h hb).more hb.size
/-! What a call makes. -/
theorem inS_grown {w w' : World} {B B0 n m size : Nat} {A : Option Addr} {l : List S} {v : Value} {xs : List Value} {T : TypeId} (h : InS w B A n l) (hown : w.ownsRow B0 T size v m xs) (hB0 : B ≤ B0) (hT : 67 ≠ T) (hg : w.grownBy w' v.ownBlock) : InS w' B A n l := by
  have key : ∀ ad, A = some ad → 0 < n → ad.block < w.heap.size ∧ some ad.block ≠ v.ownBlock := by
    intro ad hA hn
    obtain ⟨ad', hA', hlt, _⟩ := h.1.2 hn
    rw [hA] at hA'
    injection hA' with hA'
    subst hA'
    refine ⟨hlt, fun e => ?_⟩
    rcases hown.2 with ⟨rfl, _⟩ | ⟨g, cap, cur, rfl, hB, hgg, _⟩
    · cases e
    · simp only [Value.ownBlock, Option.some.injEq] at e
      rcases h.2 ad hA hn with h1 | ⟨cur', m', h1⟩
      · omega
      · rw [e, hgg] at h1
        injection h1 with h1
        injection h1 with _ h1 _
        exact hT h1.symm
  refine ⟨⟨h.1.1, fun hn => ?_⟩, fun ad hA hn => ?_⟩
  · obtain ⟨ad, hA, hlt, hc⟩ := h.1.2 hn
    have hk := key ad hA hn
    refine ⟨ad, hA, Nat.lt_of_lt_of_le hlt hg.size, fun i s hs => ?_⟩
    obtain ⟨c1, c2⟩ := hc i s hs
    have hb := hg.block _ hk.1 hk.2
    constructor
    · exact (World.cell?_of_block (by rw [block_of_add]; exact hb)).trans c1
    · exact (World.cell?_of_block (by simp only [block_of_add]; exact hb)).trans c2
  · have hk := key ad hA hn
    rcases h.2 ad hA hn with h1 | ⟨cur, m, h1⟩
    · exact .inl h1
    · exact .inr ⟨cur, m, (hg.block _ hk.1 hk.2).trans h1⟩
def AllT (w : World) (B : Nat) (rs : List Rt) (l : List Tm) : Prop :=
  rs.length = l.length ∧ ∀ (i : Nat) (r : Rt) (q : Tm), rs[i]? = some r → l[i]? = some q → r.1 = q.name ∧ r.2.2 = q.none ∧ ∃ A n c, r.2.1 = .slice A n c ∧ InS w B A n q.set
section
variable {w w' w1 : World} {B n m : Nat} {v v1 : Value} {rs rs2 : List Rt} {l l2 : List Tm}
theorem AllT.mono (h : AllT w B rs l) (hk : ∀ A n s, InS w B A n s → InS w' B A n s) : AllT w' B rs l :=
  ⟨h.1, fun i r q hr hq => by
    obtain ⟨e1, e3, A, n, c, e2, hs⟩ := h.2 i r q hr hq
    exact ⟨e1, e3, A, n, c, e2, hk _ _ _ hs⟩⟩
theorem AllT.append (h : AllT w B rs l) (h2 : AllT w B rs2 l2) : AllT w B (rs ++ rs2) (l ++ l2) :=
  ⟨by simp [h.1, h2.1], fun i r q hr hq => by
    rcases Nat.lt_or_ge i rs.length with hi | hi
    · rw [List.getElem?_append_left hi] at hr
      rw [List.getElem?_append_left (by rw [← h.1]; exact hi)] at hq
      exact h.2 i r q hr hq
    · rw [List.getElem?_append_right hi] at hr
      rw [List.getElem?_append_right (by rw [← h.1]; exact hi), ← h.1] at hq
      exact h2.2 _ r q hr hq⟩
theorem AllT.of_fits (h : FitsT w B rs l) (hB : B ≤ w.heap.size) : AllT w B rs l :=
  ⟨h.1, fun i r q hr hq => by
    obtain ⟨e1, e3, A, n, c, e2, hs⟩ := h.2 i r q hr hq
    exact ⟨e1, e3, A, n, c, e2, .of_in hs hB⟩⟩
theorem AllT.one {nm : ByteArray} {A : Option Addr} {k c : Nat} {s : List S} {z : Bool} (h : InS w B A k s) : AllT w B [(nm, .slice A k c, z)] [⟨nm, s, z⟩] :=
  ⟨rfl, fun i r q hr hq => by
    rcases i with _ | i
    · simp at hr hq
      subst hr hq
      exact ⟨rfl, rfl, A, k, c, rfl, h⟩
    · simp at hr⟩
def Tms (w : World) (B : Nat) (v : Value) (n : Nat) (rs : List Rt) (l : List Tm) : Prop := w.ownsRow B 77 3 v n (tms rs) ∧ AllT w B rs l
theorem Tms.nil_ (w : World) (B : Nat) : Tms w B (.slice none 0 0) 0 [] [] := ⟨World.ownsRow_nil w B _ 3, rfl, fun i r q hr _ => by simp at hr⟩
theorem Tms.below (h : Tms w B v n rs l) (hb : Below w.heap.size w w') : Tms w' B v n rs l := ⟨own_below h.1 hb, h.2.mono fun _ _ _ hs => hs.below hb⟩
theorem Tms.cat (h : Tms w B v n rs l) (h2 : AllT w B rs2 l2) (h1 : w1.ownsRow B 77 3 v1 m (tms rs ++ tms rs2)) (hg : w.grownBy w1 v.ownBlock) : Tms w1 B v1 m (rs ++ rs2) (l ++ l2) :=
  ⟨by rw [tms_append]; exact h1, (h.2.append h2).mono fun _ _ _ hs => inS_grown hs h.1 (Nat.le_refl _) (by decide) hg⟩
theorem Tms.len (h : Tms w B v n rs l) : l.length = n := by
  have := h.1.1
  rw [tms_length] at this
  have := h.2.1
  omega
theorem Tms.told (h : Tms w B v n rs l) : ∃ A c, v = .slice A n c ∧ n ≤ c ∧ TmIn w w.heap.size A n l := by
  obtain ⟨A, c, rfl, hc, _, hr⟩ := own_form h.1
  exact ⟨A, c, rfl, hc, rs, hr, h.2.1, fun i r q hr hq => by
    obtain ⟨e1, e3, A, n, c, e2, hs⟩ := h.2.2 i r q hr hq
    exact ⟨e1, e3, A, n, c, e2, hs.1⟩⟩
theorem reads_term (w : World) (nm : ByteArray) (A : Option Addr) (n c : Nat) (z : Bool) (T : TypeId) (g : Nat) (hg : g = w.heap.size) :
    Reads (w.alloc (.cells #[.string nm, .slice A n c, .bool z] T)) (w.heap.size + 1) 3 (some ⟨g, 0, none⟩) 1 (tms [(nm, .slice A n c, z)]) := by
  subst hg
  have h := Reads.newL w T #[.string nm, .slice A n c, .bool z]
  exact ⟨rfl, fun _ => h.2 (by simp)⟩
theorem one_term (nm : ByteArray) (A : Option Addr) (n c : Nat) (z : Bool) : ∀ u ∈ tms [(nm, .slice A n c, z)], u.oneCell' = true := tms_one _ fun r hr => by
  rw [List.mem_singleton.1 hr]
  exact ⟨A, n, c, rfl⟩
end
/-! Words for a region that makes a term and appends it. -/
def rowT (B : Nat) (t : Tm) : Rel := fun w v => ∃ A c A' n' c', v = .slice A 1 c ∧ Reads w w.heap.size 3 A 1 (tms [(t.name, .slice A' n' c', t.none)]) ∧ InS w B A' n' t.set
theorem rowT_stable (B : Nat) (t : Tm) : ∀ w w' v, Below w.heap.size w w' → rowT B t w v → rowT B t w' v :=
  fun _ _ _ hb ⟨A, c, A', n', c', hv, hr, hI⟩ => ⟨A, c, A', n', c', hv, (hr.below hb).more hb.size, hI.below hb⟩
def termV (t : Tm) : Rel := fun w v => ∃ A n c, v = .agg #[.string t.name, .slice A n c, .bool t.none] ∧ InS w 0 A n t.set
theorem termV_stable (t : Tm) : ∀ w w' v, Below w.heap.size w w' → termV t w v → termV t w' v :=
  fun _ _ _ hb ⟨A, n, c, hv, hI⟩ => ⟨A, n, c, hv, hI.below hb⟩
section
variable {B n : Nat} {rs : List Rt} {x v : Value} {t : Tm} {w w1 w2 : World} {out : List Tm}
end
end Go.Proofs.YtdmejcfnolhplaaGreat.Clash
/-
  Plain mathematics of clashes, as loops reckon them: which may be, what is put to what, how long sets become, what terms come to, how a clash is written. No program.
-/
namespace Go.Proofs.YtdmejcfnolhplaaGreat.Clash
open Go.RowKit Go.Lib Go.Proofs.YtdmejcfnolhplaaGreat.Span Go.Proofs.YtdmejcfnolhplaaGreat.Need Go.Proofs.YtdmejcfnolhplaaGreat.Pick Go.Proofs.YtdmejcfnolhplaaGreat.Term
open Go.Proofs.YtdmejcfnolhplaaGreat.Label (runes fitL)
set_option linter.unusedVariables false
instance : DecidableEq Tm := fun a b =>
  if h : a.name = b.name ∧ a.none = b.none ∧ a.set = b.set then isTrue (by
    obtain ⟨n, s, z⟩ := a
    obtain ⟨n', s', z'⟩ := b
    obtain ⟨h1, h2, h3⟩ := h
    simp only at h1 h2 h3
    subst h1 h2 h3
    rfl) else isFalse (fun e => h (by rw [e]; exact ⟨rfl, rfl, rfl⟩))
theorem same_is (a b : Tm) : (decide (a.name = b.name) && (a.none == b.none && decide (a.set = b.set))) = decide (a = b) := by
  rw [Bool.eq_iff_iff]
  simp only [Bool.and_eq_true, decide_eq_true_eq, beq_iff_eq]
  constructor
  · rintro ⟨h1, h2, h3⟩
    obtain ⟨n, s, z⟩ := a
    obtain ⟨n', s', z'⟩ := b
    simp only at h1 h2 h3
    subst h1 h2 h3
    rfl
  · rintro rfl
    exact ⟨rfl, rfl, rfl⟩
def inC (t : Tm) : Bool := okT t && (!fullT t && !emptyT t)
def okCQ : ByteArray → List Tm → Bool
  | _, [] => true
  | a, t :: r => (nlt a t.name && inC t) && okCQ t.name r
def okC (l : List Tm) : Bool := okCQ ByteArray.empty l
theorem okCQ_all {l : List Tm} : ∀ {a : ByteArray}, okCQ a l = true → ∀ t ∈ l, nlt a t.name = true ∧ inC t = true := by
  induction l with
  | nil => intro a _ t ht; cases ht
  | cons x r ih =>
    intro a h t ht
    simp only [okCQ, Bool.and_eq_true] at h
    obtain ⟨⟨h1, h2⟩, h5⟩ := h
    rcases List.mem_cons.1 ht with rfl | ht
    · exact ⟨h1, h2⟩
    · obtain ⟨g1, g2⟩ := ih h5 t ht
      exact ⟨nlt_trans h1 g1, g2⟩
theorem okCQ_rises {l : List Tm} : ∀ {a : ByteArray}, okCQ a l = true → RisesC l := by
  induction l with
  | nil => intro a _; exact List.Pairwise.nil
  | cons x r ih =>
    intro a h
    simp only [okCQ, Bool.and_eq_true] at h
    exact List.pairwise_cons.2 ⟨fun q hq => (okCQ_all h.2 q hq).1, ih h.2⟩
theorem okCQ_of {l : List Tm} : ∀ {a : ByteArray}, RisesC l → (∀ t ∈ l, nlt a t.name = true) → (∀ t ∈ l, inC t = true) → okCQ a l = true := by
  induction l with
  | nil => intro a _ _ _; rfl
  | cons x r ih =>
    intro a hr ha hf
    obtain ⟨h1, h2⟩ := List.pairwise_cons.1 hr
    simp only [okCQ, Bool.and_eq_true]
    exact ⟨⟨ha x (by simp), hf x (by simp)⟩, ih h2 h1 fun q hq => hf q (by simp [hq])⟩
theorem inC_iff {t : Tm} : inC t = true ↔ okT t = true ∧ fullT t = false ∧ emptyT t = false := by
  unfold inC
  simp only [Bool.and_eq_true, Bool.not_eq_true']
theorem okT_fit {t : Tm} (h : okT t = true) : fitL (runes t.name 0) = true := by unfold okT at h; simp only [Bool.and_eq_true] at h; exact h.1
theorem okT_set {t : Tm} (h : okT t = true) : isSet (-1) t.set = true := by unfold okT at h; simp only [Bool.and_eq_true] at h; exact h.2
theorem okC_iff {l : List Tm} : okC l = true ↔ OkC l :=
  ⟨fun h => ⟨okCQ_rises h, fun t ht => inC_iff.1 (okCQ_all h t ht).2⟩, fun ⟨h1, h2⟩ => okCQ_of h1 (fun t ht => empty_lt (fit_some (okT_fit (h2 t ht).1))) fun t ht => inC_iff.2 (h2 t ht)⟩
theorem putC_drop {c : List Tm} {t x : Tm} {i : Nat} {f : Bool} (h : c[i]? = some x) :
    putC t f (c.drop i) = if x.name = t.name then meetT x t :: putC t true (c.drop (i + 1)) else if f = false ∧ nlt t.name x.name = true then t :: x :: putC t true (c.drop (i + 1)) else x :: putC t f (c.drop (i + 1)) := by
  obtain ⟨hi, e⟩ := List.getElem?_eq_some_iff.1 h
  rw [List.drop_eq_getElem_cons hi, e, putC]
theorem putC_end (t : Tm) (f : Bool) : putC t f [] = if f = true then [] else [t] := rfl
theorem putC_length (t : Tm) : ∀ (c : List Tm) (f : Bool), (putC t f c).length ≤ c.length + 1 := by
  have h1 : ∀ c : List Tm, (putC t true c).length ≤ c.length := by
    intro c
    induction c with
    | nil => simp [putC]
    | cons x r ih =>
      rw [putC]
      split
      · simp only [List.length_cons]; omega
      · rw [if_neg (by simp)]; simp only [List.length_cons]; omega
  intro c
  induction c with
  | nil => intro f; cases f <;> simp [putC]
  | cons x r ih =>
    intro f
    have := h1 r
    have := ih f
    rw [putC]
    split
    · simp only [List.length_cons]; omega
    · split <;> simp only [List.length_cons] <;> omega
theorem puts_snoc (l : List Tm) {i : Nat} {t : Tm} (h : l[i]? = some t) : putsC (l.take (i + 1)) = putC t false (putsC (l.take i)) := by
  unfold putsC
  rw [List.take_add_one, h]
  simp
theorem puts_length : ∀ (l : List Tm) (i : Nat), i ≤ l.length → (putsC (l.take i)).length ≤ i
  | l, 0, _ => by simp [putsC]
  | l, i + 1, h => by
    rw [puts_snoc l (t := l[i]'(by omega)) (by simp)]
    have h1 := putC_length (l[i]'(by omega)) (putsC (l.take i)) false
    have h2 := puts_length l i (by omega)
    omega
def sumC (l : List Tm) : Nat := (l.map fun t => t.set.length).sum
theorem sumC_snoc (l : List Tm) {i : Nat} {t : Tm} (h : l[i]? = some t) : sumC (l.take (i + 1)) = sumC (l.take i) + t.set.length := by
  unfold sumC
  rw [List.take_add_one, h]
  simp
theorem sumC_mem {l : List Tm} {t : Tm} (h : t ∈ l) : t.set.length ≤ sumC l := by
  induction l with
  | nil => cases h
  | cons x r ih =>
    unfold sumC at *
    simp only [List.map_cons, List.sum_cons]
    rcases List.mem_cons.1 h with rfl | h
    · omega
    · have := ih h; omega
theorem sumC_append (l m : List Tm) : sumC (l ++ m) = sumC l + sumC m := by unfold sumC; simp
theorem sumC_cons (t : Tm) (l : List Tm) : sumC (t :: l) = t.set.length + sumC l := by unfold sumC; simp
theorem sumC_take (l : List Tm) : ∀ i, sumC (l.take i) ≤ sumC l := by
  intro i
  have h := sumC_append (l.take i) (l.drop i)
  rw [List.take_append_drop] at h
  omega
theorem meetT_len {a b : Tm} (ha : isSet (-1) a.set = true) (hb : isSet (-1) b.set = true) : (meetT a b).set.length ≤ a.set.length + b.set.length := by
  unfold meetT
  split
  · exact meet_len ha hb
  · simp [noT]
theorem joinT_len {a b : Tm} (ha : isSet (-1) a.set = true) (hb : isSet (-1) b.set = true) : (joinT a b).set.length ≤ a.set.length + b.set.length := by
  unfold joinT
  split
  · exact union_len ha hb
  · simp [noT]
theorem put_size {t : Tm} {k : Nat} (ht : okT t = true) : ∀ (c : List Tm) (f : Bool), (∀ x ∈ c, okT x = true) → (∀ x ∈ c, x.set.length ≤ k) → ∀ z ∈ putC t f c, z.set.length ≤ k + t.set.length
  | [], f, _, _, z, hz => by
    rw [putC_end] at hz
    split at hz
    · cases hz
    · rw [List.mem_singleton.1 hz]; omega
  | x :: r, f, ho, hk, z, hz => by
    have hx := hk x (by simp)
    have ih := fun f => put_size (k := k) ht r f (fun y hy => ho y (by simp [hy])) (fun y hy => hk y (by simp [hy]))
    rw [putC] at hz
    split at hz
    · rcases List.mem_cons.1 hz with rfl | hz
      · have := meetT_len (okT_set (ho x (by simp))) (okT_set ht)
        omega
      · exact ih true z hz
    · split at hz
      · rcases List.mem_cons.1 hz with rfl | hz
        · omega
        · rcases List.mem_cons.1 hz with rfl | hz
          · omega
          · exact ih true z hz
      · rcases List.mem_cons.1 hz with rfl | hz
        · omega
        · exact ih f z hz
theorem puts_size {l : List Tm} (h : ∀ t ∈ l, okT t = true) : ∀ i, i ≤ l.length → ∀ z ∈ putsC (l.take i), z.set.length ≤ sumC (l.take i) := by
  intro i
  induction i with
  | zero => intro _ z hz; simp [putsC] at hz
  | succ i ih =>
    intro hi z hz
    have hx : l[i]? = some (l[i]'(by omega)) := by simp
    rw [puts_snoc l hx] at hz
    rw [sumC_snoc l hx]
    exact put_size (h _ (List.mem_of_getElem? hx)) _ _ (fun y hy => (puts_ok (l := l.take i) fun t ht => h t (List.mem_of_mem_take ht)).2 y hy) (ih (by omega)) z hz
def leftC : List Tm → Option (List Tm)
  | [] => some []
  | t :: r => if emptyT t = true then none else (leftC r).map fun m => if fullT t = true then m else t :: m
theorem left_is : ∀ l : List Tm, leftC l = if l.any emptyT = true then none else some (l.filter fun t => !fullT t)
  | [] => rfl
  | t :: r => by
    rw [leftC, left_is r]
    cases h1 : emptyT t <;> cases h2 : r.any emptyT <;> cases h3 : fullT t <;> simp [h1, h2, h3]
theorem make_left (l : List Tm) : makeC l = leftC (putsC l) := by rw [left_is]; rfl
theorem left_drop {l : List Tm} {t : Tm} {i : Nat} (h : l[i]? = some t) : leftC (l.drop i) = if emptyT t = true then none else (leftC (l.drop (i + 1))).map fun m => if fullT t = true then m else t :: m := by
  obtain ⟨hi, e⟩ := List.getElem?_eq_some_iff.1 h
  rw [List.drop_eq_getElem_cons hi, e, leftC]
theorem findC_drop {l : List Tm} {n : ByteArray} {t : Tm} {i : Nat} (h : l[i]? = some t) : findC (l.drop i) n = if t.name = n then some t else findC (l.drop (i + 1)) n := by
  obtain ⟨hi, e⟩ := List.getElem?_eq_some_iff.1 h
  rw [List.drop_eq_getElem_cons hi, e]
  unfold findC
  rw [List.find?_cons]
  by_cases g : t.name = n <;> simp [g]
def fullOf (n : ByteArray) : Tm := ⟨n, allS, true⟩
def foundC (l : List Tm) (n : ByteArray) : Tm := (findC l n).getD (fullOf n)
theorem dropC_take {l : List Tm} {n : ByteArray} {t : Tm} {i : Nat} (h : l[i]? = some t) : dropC (l.take (i + 1)) n = if t.name = n then dropC (l.take i) n else dropC (l.take i) n ++ [t] := by
  unfold dropC
  rw [List.take_add_one, h, List.filter_append]
  by_cases g : t.name = n <;> simp [g]
end Go.Proofs.YtdmejcfnolhplaaGreat.Clash
/-
  Contracts of term's Check, Full, Empty, Has, Same and Within, of the program and the document, and of the statements' Large: what each tells of terms. Condition: sets of at most 1,000,000,001 spans (the document's Within: 1,000), names of at most 1,000,000,000 bytes.
-/
namespace Go.Proofs.YtdmejcfnolhplaaGreat.Term
open Go Go.RowKit Go.Lib Go.Proofs.YtdmejcfnolhplaaGreat.Span Go.Proofs.YtdmejcfnolhplaaGreat.Need Go.Proofs.YtdmejcfnolhplaaGreat.Grow
open Go.Proofs.YtdmejcfnolhplaaGreat.Label (runes fitL fit_any refFit_any)
set_option linter.unusedVariables false
theorem len_zero {A : Option Addr} {n : Nat} {l : List S} {w : World} (h : SpOn w A n l) : ((n : Int) == 0) = decide (l = []) := by
  have := h.len
  rw [Bool.eq_iff_iff, decide_eq_true_iff, beq_iff_eq, ← List.length_eq_zero_iff]
  omega
set_option maxHeartbeats 4000000 in
set_option maxRecDepth 100000 in
theorem fullT_any (nm : ByteArray) (s : List S) (z : Bool) (A : Option Addr) (n c : Nat) (w : World) (h : SpOn w A n s) (hn : n ≤ 1000000001) :
    Calls Tryz.prog 109 #[.agg #[.string nm, .slice A n c, .bool z]] w (Tells w (.bool (z && decide (s = allS)))) := by
  have HA := hide (fun (wx : World) => all_any wx)
  have HS := hide (fun (wx : World) (A' : Option Addr) (n' c' : Nat) (hb : Below w.heap.size w wx) (h' : SpOn wx A' n' [((0 : Int), (1000000000 : Int))]) => same_on (c := c) (c' := c') (h.on hb) h' hn (by have := h'.len; simp at this; omega))
  unfold Tells at HS ⊢
  show Calls _ _ _ _ fun e w' => e = .returned (.bool (z && decide (s = [((0 : Int), (1000000000 : Int))]))) ∧ Below w.heap.size w w'
  generalize decide (s = [((0 : Int), (1000000000 : Int))]) = b2 at *
  have hba := alloc_b (w := w) (.cells #[.string nm, .slice A n c, .bool z] 77)
  have bk := Blk.new w 77 #[.string nm, .slice A n c, .bool z]
  clear h hn
  obtain ⟨W, hW⟩ : ∃ W, W = w.alloc (.cells #[.string nm, .slice A n c, .bool z] 77) := ⟨_, rfl⟩
  rw [← hW] at hba bk
  have q0 := cell_reg_ ((bk.cell 2).trans (show (#[Value.string nm, .slice A n c, .bool z] : Array Value)[2]? = some (.bool z) from rfl)) bk.lt
  have q1 := cell_reg_ ((bk.cell 1).trans (show (#[Value.string nm, .slice A n c, .bool z] : Array Value)[1]? = some (.slice A n c) from rfl)) bk.lt
  clear bk
  cases z <;>
  · go_enter Tryz.func109, Tryz.ntmps109
    go_upto_region 1 with fail
    rw [← hW]
    clear hW
    refine wp_region_grow [(8, spR allS), (9, isC (.bool b2))] [8, 9]
      (by kernel_rfl) (by kernel_rfl) rfl (by kernel_rfl) (by kernel_rfl) ⟨spR_stable _, isC_stable _, trivial⟩ ?_
    repeat (first
      | (refine lex_skip rfl ?_; simp only [Act.put, List.setIfInBounds_toArray, List.set_cons_zero, List.set_cons_succ])
      | (refine lex_quiet rfl rfl rfl (fun K hK => ?_); unfold Reg; go_big_quiet_op; refine hK _ ?_; clear hK K)
      | (refine lex_rel rfl rfl (fun w' hb9 hK => ?_) (fun v w' hb9 hv => ?_)
         · unfold grows
           go_simp
           go_at_call 145
           refine (HA.out w').mono ?_
           rintro e w8 ⟨A8, n8, c8, rfl, h8, hb8⟩
           exact ⟨_, rfl, hb8, A8, n8, c8, rfl, h8⟩
         obtain ⟨Av, nv, cv, rfl, hv8⟩ := hv
         simp only [Act.put, List.setIfInBounds_toArray, List.set_cons_zero, List.set_cons_succ])
      | (refine lex_rel rfl rfl (fun w' hb9 hK => ?_) (fun v w' hb9 hv => ?_)
         · obtain ⟨B1, m1, d1, j1, hB1⟩ := hK.at_ 8 rfl rfl (slice_d _ _ _)
           have j1' : Value.slice Av nv cv = .slice B1 m1 d1 := j1
           injection j1' with x1 x2 x3
           rw [← x1, ← x2] at hB1
           clear j1 x1 x2 x3 hK
           unfold grows
           go_simp
           go_at_call 144
           exact call_isC (HS.out w' _ _ _ (hba.trans (hb9.mono hba.size)) hB1)
         obtain rfl := hv
         simp only [Act.put, List.setIfInBounds_toArray, List.set_cons_zero, List.set_cons_succ]))
    refine lex_nil (fun w9 hC9 _ => ?_)
    have hb9 := reg_iff.1 hC9
    clear hC9 q0 q1
    go_wp2
    go_ret
    exact ⟨rfl, hba.trans (hb9.mono hba.size)⟩
set_option maxHeartbeats 4000000 in
set_option maxRecDepth 100000 in
theorem refFullT_any (nm : ByteArray) (s : List S) (z : Bool) (A : Option Addr) (n c : Nat) (w : World) (h : SpOn w A n s) (hn : n ≤ 1000000001) :
    Calls Tryz.prog 124 #[.agg #[.string nm, .slice A n c, .bool z]] w (Tells w (.bool (z && decide (s = allS)))) := by
  have HA := hide (fun (wx : World) => refAll_any wx)
  have HS := hide (fun (wx : World) (A' : Option Addr) (n' c' : Nat) (hb : Below w.heap.size w wx) (h' : SpOn wx A' n' [((0 : Int), (1000000000 : Int))]) => refSame_on (c := c) (c' := c') (h.on hb) h' hn (by have := h'.len; simp at this; omega))
  unfold Tells at HS ⊢
  show Calls _ _ _ _ fun e w' => e = .returned (.bool (z && decide (s = [((0 : Int), (1000000000 : Int))]))) ∧ Below w.heap.size w w'
  generalize decide (s = [((0 : Int), (1000000000 : Int))]) = b2 at *
  have hba := alloc_b (w := w) (.cells #[.string nm, .slice A n c, .bool z] 77)
  have bk := Blk.new w 77 #[.string nm, .slice A n c, .bool z]
  clear h hn
  obtain ⟨W, hW⟩ : ∃ W, W = w.alloc (.cells #[.string nm, .slice A n c, .bool z] 77) := ⟨_, rfl⟩
  rw [← hW] at hba bk
  have q0 := cell_reg_ ((bk.cell 2).trans (show (#[Value.string nm, .slice A n c, .bool z] : Array Value)[2]? = some (.bool z) from rfl)) bk.lt
  have q1 := cell_reg_ ((bk.cell 1).trans (show (#[Value.string nm, .slice A n c, .bool z] : Array Value)[1]? = some (.slice A n c) from rfl)) bk.lt
  clear bk
  cases z <;>
  · go_enter Tryz.func124, Tryz.ntmps124
    go_upto_region 1 with fail
    rw [← hW]
    clear hW
    refine wp_region_grow [(8, spR allS), (9, isC (.bool b2))] [8, 9]
      (by kernel_rfl) (by kernel_rfl) rfl (by kernel_rfl) (by kernel_rfl) ⟨spR_stable _, isC_stable _, trivial⟩ ?_
    repeat (first
      | (refine lex_skip rfl ?_; simp only [Act.put, List.setIfInBounds_toArray, List.set_cons_zero, List.set_cons_succ])
      | (refine lex_quiet rfl rfl rfl (fun K hK => ?_); unfold Reg; go_big_quiet_op; refine hK _ ?_; clear hK K)
      | (refine lex_rel rfl rfl (fun w' hb9 hK => ?_) (fun v w' hb9 hv => ?_)
         · unfold grows
           go_simp
           go_at_call 128
           refine (HA.out w').mono ?_
           rintro e w8 ⟨A8, n8, c8, rfl, h8, hb8⟩
           exact ⟨_, rfl, hb8, A8, n8, c8, rfl, h8⟩
         obtain ⟨Av, nv, cv, rfl, hv8⟩ := hv
         simp only [Act.put, List.setIfInBounds_toArray, List.set_cons_zero, List.set_cons_succ])
      | (refine lex_rel rfl rfl (fun w' hb9 hK => ?_) (fun v w' hb9 hv => ?_)
         · obtain ⟨B1, m1, d1, j1, hB1⟩ := hK.at_ 8 rfl rfl (slice_d _ _ _)
           have j1' : Value.slice Av nv cv = .slice B1 m1 d1 := j1
           injection j1' with x1 x2 x3
           rw [← x1, ← x2] at hB1
           clear j1 x1 x2 x3 hK
           unfold grows
           go_simp
           go_at_call 61
           exact call_isC (HS.out w' _ _ _ (hba.trans (hb9.mono hba.size)) hB1)
         obtain rfl := hv
         simp only [Act.put, List.setIfInBounds_toArray, List.set_cons_zero, List.set_cons_succ]))
    refine lex_nil (fun w9 hC9 _ => ?_)
    have hb9 := reg_iff.1 hC9
    clear hC9 q0 q1
    go_wp2
    go_ret
    exact ⟨rfl, hba.trans (hb9.mono hba.size)⟩
set_option maxHeartbeats 4000000 in
set_option maxRecDepth 100000 in
theorem emptyT_any (nm : ByteArray) (s : List S) (z : Bool) (A : Option Addr) (n c : Nat) (w : World) (h : SpOn w A n s) :
    Calls Tryz.prog 108 #[.agg #[.string nm, .slice A n c, .bool z]] w (Tells w (.bool (!z && decide (s = [])))) := by
  unfold Tells
  rw [← len_zero h]
  have hba := alloc_b (w := w) (.cells #[.string nm, .slice A n c, .bool z] 77)
  have bk := Blk.new w 77 #[.string nm, .slice A n c, .bool z]
  clear h bk
  cases z <;>
  · go_enter Tryz.func108, Tryz.ntmps108
    go_wp2
    go_ret
    exact ⟨rfl, hba⟩
set_option maxHeartbeats 4000000 in
set_option maxRecDepth 100000 in
theorem refEmptyT_any (nm : ByteArray) (s : List S) (z : Bool) (A : Option Addr) (n c : Nat) (w : World) (h : SpOn w A n s) :
    Calls Tryz.prog 123 #[.agg #[.string nm, .slice A n c, .bool z]] w (Tells w (.bool (!z && decide (s = [])))) := by
  unfold Tells
  rw [← len_zero h]
  have hba := alloc_b (w := w) (.cells #[.string nm, .slice A n c, .bool z] 77)
  have bk := Blk.new w 77 #[.string nm, .slice A n c, .bool z]
  clear h bk
  cases z <;>
  · go_enter Tryz.func123, Tryz.ntmps123
    go_wp2
    go_ret
    exact ⟨rfl, hba⟩
set_option maxHeartbeats 8000000 in
set_option maxRecDepth 100000 in
theorem refSameT_any (a b : ByteArray) (s t : List S) (x y : Bool) (A A' : Option Addr) (n c n' c' : Nat) (w : World) (h : SpOn w A n s) (h' : SpOn w A' n' t) (hn : n ≤ 1000000001) (hn' : n' ≤ 1000000001) :
    Calls Tryz.prog 33 #[.agg #[.string a, .slice A n c, .bool x], .agg #[.string b, .slice A' n' c', .bool y]] w (Tells w (.bool (decide (a = b) && (x == y && decide (s = t))))) := by
  have HS := hide (fun (wx : World) (hb : Below w.heap.size w wx) => refSame_on (c := c) (c' := c') (h.on hb) (h'.on hb) hn hn')
  unfold Tells at HS ⊢
  have eq := eq_names a b
  generalize decide (a = b) = b1 at *
  generalize decide (s = t) = b2 at *
  have hba := ((Below.refl w.heap.size w).alloc (Nat.le_refl _) (.cells #[.string a, .slice A n c, .bool x] 77)).alloc (by simp) (.cells #[.string b, .slice A' n' c', .bool y] 77)
  clear h h'
  cases b1 <;> cases x <;> cases y <;>
  · skip
    go_enter Tryz.func33, Tryz.ntmps33
    go_wp2_with (first
      | (go_at_call 61
         refine (HS.out _ ?_).mono ?_
         · exact ((Below.refl _ _).alloc (Nat.le_refl _) _).alloc (by simp) _
         rintro e w1 ⟨rfl, hb1⟩
         have hbw := hba.trans (hb1.mono hba.size)))
    go_ret
    first | exact ⟨rfl, hba⟩ | exact ⟨by simp, hbw⟩ | exact ⟨by simp, hba⟩
end Go.Proofs.YtdmejcfnolhplaaGreat.Term
/-
  Plain mathematics for a Make that puts terms of one name together in a map: what the map holds of a name, which names it has, and what is left by rising names. No program.
-/
namespace Go.Proofs.YtdmejcfnolhplaaGreat.Clash
open Go.RowKit Go.Lib Go.Proofs.YtdmejcfnolhplaaGreat.Span Go.Proofs.YtdmejcfnolhplaaGreat.Need Go.Proofs.YtdmejcfnolhplaaGreat.Pick Go.Proofs.YtdmejcfnolhplaaGreat.Term
set_option linter.unusedVariables false
theorem find_cons (x : Tm) (r : List Tm) (n : ByteArray) : findC (x :: r) n = if x.name = n then some x else findC r n := by
  unfold findC
  rw [List.find?_cons]
  by_cases g : x.name = n <;> simp [g]
theorem find_far {c : List Tm} {n : ByteArray} (h : ∀ x ∈ c, x.name ≠ n) : findC c n = none := by
  induction c with
  | nil => rfl
  | cons x r ih => rw [find_cons, if_neg (h x (by simp))]; exact ih fun y hy => h y (by simp [hy])
theorem meet_name {a b : Tm} (h : a.name = b.name) : (meetT a b).name = a.name := by rw [meet_same h]
theorem find_put {t : Tm} : ∀ {c : List Tm}, RisesC c → ∀ n, findC (putC t false c) n = if n = t.name then some (match findC c n with | some x => meetT x t | none => t) else findC c n
  | [], _, n => by
    rw [putC_end, if_neg (by simp), find_cons]
    by_cases g : n = t.name
    · rw [if_pos g.symm, if_pos g]; rfl
    · rw [if_neg (fun e => g e.symm), if_neg g]
  | x :: r, hr, n => by
    obtain ⟨h1, h2⟩ := List.pairwise_cons.1 hr
    have ih := find_put (t := t) h2 n
    rw [putC]
    by_cases e : x.name = t.name
    · rw [if_pos e, put_true t r (fun y hy => fun e2 => by
        have := h1 y hy
        rw [e2, ← e, nlt_self] at this; cases this), find_cons, meet_name e, find_cons]
      by_cases g : n = t.name
      · rw [if_pos (e.trans g.symm), if_pos g, if_pos (e.trans g.symm)]
      · rw [if_neg (fun e2 => g (e2.symm.trans e)), if_neg g, if_neg (fun e2 => g (e2.symm.trans e))]
    · rw [if_neg e]
      by_cases l : nlt t.name x.name = true
      · rw [if_pos ⟨rfl, l⟩, put_true t r (fun y hy => fun e2 => by
          have := nlt_trans l (h1 y hy)
          rw [e2, nlt_self] at this; cases this), find_cons]
        by_cases g : n = t.name
        · rw [if_pos g.symm, if_pos g, find_cons, if_neg (fun e2 => e (e2.trans g)), find_far (fun y hy e2 => by
            have := nlt_trans l (h1 y hy)
            rw [e2, g, nlt_self] at this; cases this)]
        · rw [if_neg (fun e2 => g e2.symm), if_neg g]
      · rw [if_neg (fun h => l h.2), find_cons, ih, find_cons]
        by_cases g : x.name = n
        · rw [if_pos g, if_pos g, if_neg (fun e2 => e (g.trans e2))]
        · rw [if_neg g, if_neg g]
theorem find_at {c : List Tm} (hr : RisesC c) {i : Nat} {x : Tm} (h : c[i]? = some x) : findC c x.name = some x := by
  induction c generalizing i with
  | nil => simp at h
  | cons y r ih =>
    obtain ⟨h1, h2⟩ := List.pairwise_cons.1 hr
    rw [find_cons]
    cases i with
    | zero => simp at h; rw [h, if_pos rfl]
    | succ i =>
      rw [List.getElem?_cons_succ] at h
      rw [if_neg (fun e => by
        have := h1 x (List.mem_of_getElem? h)
        rw [e, nlt_self] at this; cases this)]
      exact ih h2 h
theorem names_rise {c : List Tm} (hr : RisesC c) : (c.map fun t => t.name).Pairwise fun x y => nlt x y = true := List.pairwise_map.2 hr
end Go.Proofs.YtdmejcfnolhplaaGreat.Clash

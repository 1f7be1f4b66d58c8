/-
  Some texts of this claim, one behind the other: Lie. What each proves, and its condition, stands at its head.
-/
import Derived.Test.YtllogmokadcfmaaGreatZB1
import Derived.Deep.Slices
import Derived.ChangeArms
import Derived.OpenShut
/-
  How data of a type lie in cells: integers, booleans, texts, structs, arrays and slices of such; and that what came in with a call lies so. Of no program.
-/
namespace Go.Proofs.YtllogmokadcfmaaGreat
open Go.RowKit
set_option linter.unusedVariables false
structure Lie (α : Type) where
  size : Nat
  holds : World → Nat → List Value → α → Prop
  keep : ∀ {w w' B cs x}, holds w B cs x → Below B w w' → holds w' B cs x
  more : ∀ {w B B' cs x}, holds w B cs x → B ≤ B' → holds w B' cs x
  count : ∀ {w B cs x}, holds w B cs x → cs.length = size
def lieInt (k : IntKind) : Lie Int where
  size := 1
  holds := fun _ _ cs x => cs = [.int k x] ∧ (Lit.int k x).wf = true
  keep := fun h _ => h
  more := fun h _ => h
  count := fun h => by rw [h.1]; rfl
def lieBool : Lie Bool where
  size := 1
  holds := fun _ _ cs x => cs = [.bool x]
  keep := fun h _ => h
  more := fun h _ => h
  count := fun h => by rw [h]; rfl
def lieStr : Lie ByteArray where
  size := 1
  holds := fun _ _ cs x => cs = [.string x] ∧ x.size ≤ maxLen
  keep := fun h _ => h
  more := fun h _ => h
  count := fun h => by rw [h.1]; rfl
def liePair {α β : Type} (R : Lie α) (S : Lie β) : Lie (α × β) where
  size := R.size + S.size
  holds := fun w B cs x => ∃ c1 c2, cs = c1 ++ c2 ∧ R.holds w B c1 x.1 ∧ S.holds w B c2 x.2
  keep := fun ⟨c1, c2, h, h1, h2⟩ hb => ⟨c1, c2, h, R.keep h1 hb, S.keep h2 hb⟩
  more := fun ⟨c1, c2, h, h1, h2⟩ hb => ⟨c1, c2, h, R.more h1 hb, S.more h2 hb⟩
  count := fun ⟨c1, c2, h, h1, h2⟩ => by rw [h, List.length_append, R.count h1, S.count h2]
def CellsAt (w : World) (a : Addr) (cs : List Value) : Prop := ∀ j, j < cs.length → w.cell? (a.add j) = cs[j]?
theorem CellsAt.keep {w w' : World} {B : Nat} {a : Addr} {cs : List Value} (h : CellsAt w a cs) (ha : a.block < B) (hb : Below B w w') : CellsAt w' a cs := fun j hj => by
  rw [hb.cell (by rw [block_of_add]; exact ha)]; exact h j hj
def RowOf {α : Type} (R : Lie α) (w : World) (B : Nat) (A : Option Addr) (n : Nat) (l : List α) : Prop :=
  l.length = n ∧ (0 < n → ∃ ad, A = some ad ∧ ad.block < B ∧ ∀ i x, l[i]? = some x → ∃ cs, CellsAt w (ad.add (i * R.size)) cs ∧ R.holds w B cs x)
theorem RowOf.keep {α : Type} {R : Lie α} {w w' : World} {B n : Nat} {A : Option Addr} {l : List α} (h : RowOf R w B A n l) (hb : Below B w w') : RowOf R w' B A n l :=
  ⟨h.1, fun hn => by
    obtain ⟨ad, hA, hB, hc⟩ := h.2 hn
    refine ⟨ad, hA, hB, fun i x hx => ?_⟩
    obtain ⟨cs, h1, h2⟩ := hc i x hx
    exact ⟨cs, h1.keep (by rw [block_of_add]; exact hB) hb, R.keep h2 hb⟩⟩
theorem RowOf.more {α : Type} {R : Lie α} {w : World} {B B' n : Nat} {A : Option Addr} {l : List α} (h : RowOf R w B A n l) (hb : B ≤ B') : RowOf R w B' A n l :=
  ⟨h.1, fun hn => by
    obtain ⟨ad, hA, hB, hc⟩ := h.2 hn
    refine ⟨ad, hA, by omega, fun i x hx => ?_⟩
    obtain ⟨cs, h1, h2⟩ := hc i x hx
    exact ⟨cs, h1, R.more h2 hb⟩⟩
theorem RowOf.at_ {α : Type} {R : Lie α} {w : World} {B n k : Nat} {A : Option Addr} {l : List α} (h : RowOf R w B A n l) (hk : k < n) :
    ∃ ad x cs, A = some ad ∧ ad.block < B ∧ l[k]? = some x ∧ CellsAt w (ad.add (k * R.size)) cs ∧ R.holds w B cs x := by
  obtain ⟨ad, hA, hB, hc⟩ := h.2 (by omega)
  have hl : k < l.length := by rw [h.1]; exact hk
  obtain ⟨cs, h1, h2⟩ := hc k l[k] (by simp [hl])
  exact ⟨ad, l[k], cs, hA, hB, by simp [hl], h1, h2⟩
def lieSlice {α : Type} (R : Lie α) : Lie (List α) where
  size := 1
  holds := fun w B cs l => ∃ A n c, cs = [.slice A n c] ∧ n ≤ c ∧ c ≤ maxLen ∧ (A = none → c = 0) ∧ RowOf R w B A n l
  keep := fun ⟨A, n, c, h, h1, h2, h3, h4⟩ hb => ⟨A, n, c, h, h1, h2, h3, h4.keep hb⟩
  more := fun ⟨A, n, c, h, h1, h2, h3, h4⟩ hb => ⟨A, n, c, h, h1, h2, h3, h4.more hb⟩
  count := fun ⟨A, n, c, h, _⟩ => by rw [h]; rfl
def Opens (P : Program) (t : TypeId) {α : Type} (R : Lie α) : Prop := P.cellsOf t = R.size ∧
  ∀ {H : Type} (enc : TypeId × Value → H) (w : World) (spare : Nat → Bool) (held : Bool) (fuel : Nat) (cs : List Value) (x : DataW H × List MemPlace), DataW.trod enc P w 0 spare held fuel t cs = some x → ∃ d, R.holds w w.heap.size cs d
variable {P : Program}
theorem opens_int {t : TypeId} {k : IntKind} (hu : P.underlying t = some (.int k)) (hc : P.cellsOf t = 1) : Opens P t (lieInt k) :=
  ⟨hc, fun enc w spare held fuel cs x h => by
    obtain ⟨z, h1, _, h3⟩ := DataW.trod_int hu h
    exact ⟨z, h1, h3⟩⟩
theorem opens_bool {t : TypeId} (hu : P.underlying t = some .bool) (hc : P.cellsOf t = 1) : Opens P t lieBool :=
  ⟨hc, fun enc w spare held fuel cs x h => by
    obtain ⟨b, h1, _⟩ := DataW.trod_bool hu h
    exact ⟨b, h1⟩⟩
theorem opens_str {t : TypeId} (hu : P.underlying t = some .string) (hc : P.cellsOf t = 1) : Opens P t lieStr :=
  ⟨hc, fun enc w spare held fuel cs x h => by
    cases fuel with
    | zero => simp [DataW.trod] at h
    | succ m =>
      unfold DataW.trod at h
      rw [hu] at h
      split at h <;> simp_all
      exact ⟨_, rfl, h.1⟩⟩
theorem list_of {α : Type} (n : Nat) (p : Nat → α → Prop) (h : ∀ i, i < n → ∃ x, p i x) : ∃ l : List α, l.length = n ∧ ∀ i x, l[i]? = some x → p i x := by
  induction n with
  | zero => exact ⟨[], rfl, fun i x hx => by simp at hx⟩
  | succ n ih =>
    obtain ⟨l, hl, hp⟩ := ih fun i hi => h i (by omega)
    obtain ⟨y, hy⟩ := h n (by omega)
    refine ⟨l ++ [y], by simp [hl], fun i x hx => ?_⟩
    by_cases hi : i < n
    · rw [List.getElem?_append_left (by omega)] at hx
      exact hp i x hx
    · rw [List.getElem?_append_right (by omega)] at hx
      have : i - l.length = 0 := by
        cases hj : i - l.length with
        | zero => rfl
        | succ j => rw [hj] at hx; simp at hx
      rw [this] at hx
      simp at hx
      subst hx
      rw [show i = n by omega]
      exact hy
theorem opens_slice {t e : TypeId} {α : Type} {R : Lie α} (hu : P.underlying t = some (.slice e)) (hc : P.cellsOf t = 1) (he : Opens P e R) (hpos : 0 < R.size) : Opens P t (lieSlice R) :=
  ⟨hc, fun enc w spare held fuel cs x h => by
    rcases Deep.open_slice hu h with ⟨rfl, _⟩ | ⟨a, len, cap, m, n, D, Pl, rfl, _, hl, hm, hmm, _, hx⟩
    · exact ⟨[], none, 0, 0, rfl, Nat.le_refl _, by simp [maxLen], fun _ => rfl, rfl, fun h => absurd h (by omega)⟩
    · have hlm : len ≤ m := by rw [hmm]; split <;> omega
      obtain ⟨l, hll, hlp⟩ := list_of len (fun i y => ∃ cs, CellsAt w (a.add (i * R.size)) cs ∧ R.holds w w.heap.size cs y) fun i hi => by
        obtain ⟨cs', h1, h2⟩ := hx i (by omega)
        rw [he.1] at h1
        obtain ⟨_, h3, h4⟩ := World.cells?_some h1
        obtain ⟨d, hd⟩ := he.2 enc w spare held n cs' _ h2
        exact ⟨d, cs', fun j hj => h4 j (by omega), hd⟩
      refine ⟨l, some a, len, cap, rfl, hl, hm, (fun h => by cases h), hll, fun hn => ⟨a, rfl, ?_, hlp⟩⟩
      obtain ⟨cs', h1, _⟩ := hx 0 (by omega)
      rw [he.1] at h1
      obtain ⟨_, h3, h4⟩ := World.cells?_some h1
      have h5 := h4 0 hpos
      cases hcs : cs' with
      | nil => rw [hcs] at h3; simp at h3; omega
      | cons v r =>
        rw [hcs] at h5
        have := World.block_lt_of_cell? w _ h5
        rwa [block_of_add, block_of_add] at this⟩
def OpensF (P : Program) (fs : List Field) (off : Nat) {α : Type} (R : Lie α) : Prop :=
  ∀ {H : Type} (enc : TypeId × Value → H) (w : World) (spare : Nat → Bool) (held : Bool) (fuel : Nat) (cs : List Value), (∀ f ∈ fs, ∃ x, DataW.trod enc P w 0 spare held fuel f.type ((cs.drop f.offset).take (P.cellsOf f.type)) = some x) →
    ∃ d, R.holds w w.heap.size ((cs.drop off).take R.size) d
theorem opensF_one {f : Field} {off : Nat} {α : Type} {R : Lie α} (ho : f.offset = off) (hf : Opens P f.type R) : OpensF P [f] off R := fun enc w spare held fuel cs h => by
  obtain ⟨x, hx⟩ := h f (by simp)
  rw [ho, hf.1] at hx
  exact hf.2 enc w spare held fuel _ x hx
theorem opensF_cons {f : Field} {fs : List Field} {off : Nat} {α β : Type} {R : Lie α} {S : Lie β} (ho : f.offset = off) (hf : Opens P f.type R) (hs : OpensF P fs (off + R.size) S) : OpensF P (f :: fs) off (liePair R S) := fun enc w spare held fuel cs h => by
  obtain ⟨x, hx⟩ := h f (by simp)
  rw [ho, hf.1] at hx
  obtain ⟨d1, h1⟩ := hf.2 enc w spare held fuel _ x hx
  obtain ⟨d2, h2⟩ := hs enc w spare held fuel cs fun g hg => h g (by simp [hg])
  refine ⟨(d1, d2), _, _, ?_, h1, h2⟩
  show (cs.drop off).take (R.size + S.size) = _
  rw [List.take_add, List.drop_drop]
theorem opens_struct {t : TypeId} {fs : List Field} {α : Type} {R : Lie α} (hu : P.underlying t = some (.struct fs.toArray)) (hc : P.cellsOf t = R.size) (hf : OpensF P fs 0 R) : Opens P t R :=
  ⟨hc, fun enc w spare held fuel cs x h => by
    obtain ⟨xs, n, rfl, _, hlen, hxl, hx⟩ := DataW.trod_struct hu h
    obtain ⟨d, hd⟩ := hf enc w spare held n cs fun f hm => by
      obtain ⟨i, hi, rfl⟩ := List.getElem_of_mem hm
      have h1 := hx i fs[i] (by simp [hi])
      have h2 : i < xs.length := by rw [hxl]; simpa using hi
      exact ⟨xs[i], by rw [h1]; simp [h2]⟩
    rw [List.drop_zero, List.take_of_length_le (by rw [hlen, hc]; exact Nat.le_refl _)] at hd
    exact ⟨d, hd⟩⟩
end Go.Proofs.YtllogmokadcfmaaGreat

/-
  Some texts of this claim, one behind the other: DepotMath, IndexMath, DepotCells, DepotCheck. What each proves, and its condition, stands at its head.
-/
import Derived.Test.YtdmejcfnolhplaaGreatZA29
import Derived.Lib.Bytealg
import Derived.Test.YtdmejcfnolhplaaGreatZA21
import Derived.Test.YtdmejcfnolhplaaGreatZA1
import Derived.Test.YtdmejcfnolhplaaGreatZA11
/-
  Plain mathematics of depots: which entries may be, where an entry stands, a name's body and manifest, what is broken, the depot of manifests; a depot of manifests has just them. No program.
-/
namespace Go.Proofs.YtdmejcfnolhplaaGreat.Depot
open Go.RowKit Go.Lib Go.Proofs.YtdmejcfnolhplaaGreat.Span Go.Proofs.YtdmejcfnolhplaaGreat.Need Go.Proofs.YtdmejcfnolhplaaGreat.Mani Go.Proofs.YtdmejcfnolhplaaGreat.Wire
open Go.Proofs.YtdmejcfnolhplaaGreat.Label (runes fitL)
set_option linter.unusedVariables false
abbrev En := ByteArray × List UInt8
theorem nlt_cases (a b : ByteArray) : nlt a b = true ∨ a = b ∨ nlt b a = true := by
  cases h1 : nlt a b
  · cases h2 : nlt b a
    · exact .inr (.inl (nlt_tri h1 h2))
    · exact .inr (.inr rfl)
  · exact .inl rfl
def goodE (nm : ByteArray) (b : List UInt8) : Bool := decide (errB b = 0) && decide ((readB b).1 = nm)
def relE (nm : ByteArray) (b : List UInt8) : List Rl := if goodE nm b = true then (readB b).2 else []
theorem relE_fine (nm : ByteArray) (b : List UInt8) : FineR (relE nm b) := by
  unfold relE
  split
  · rename_i h
    unfold goodE at h
    simp only [Bool.and_eq_true, decide_eq_true_eq] at h
    unfold readB
    rw [if_pos h.1]
    exact (manS_fine (b, 0)).2
  · exact ⟨by decide, fun q hq => by cases hq⟩
theorem good_put {nm : ByteArray} {l : List Rl} (h : okM nm l = true) : goodE nm (putB nm l) = true ∧ relE nm (putB nm l) = l := by
  have e : putB nm l = manB nm l := by unfold putB; rw [if_pos h]
  obtain ⟨h1, h2⟩ := read_put nm l h
  have hg : goodE nm (putB nm l) = true := by
    rw [e]
    unfold goodE
    rw [h1, h2]
    simp
  refine ⟨hg, ?_⟩
  unfold relE
  rw [if_pos hg, e, h2]
def bigE (q : En) : Bool := decide (200 < q.1.size) || decide (9000 < q.2.length)
def largeE (l : List En) : Bool := decide (30 < l.length) || l.any bigE
theorem anyE_drop {l : List En} {i : Nat} {q : En} (h : l[i]? = some q) : (l.drop i).any bigE = (bigE q || (l.drop (i + 1)).any bigE) := by
  obtain ⟨hi, e⟩ := List.getElem?_eq_some_iff.1 h
  rw [List.drop_eq_getElem_cons hi, e]
  rfl
theorem fineE_of {l : List En} (h : largeE l = false) : l.length ≤ 30 ∧ ∀ q ∈ l, q.1.size ≤ 200 ∧ q.2.length ≤ 9000 := by
  unfold largeE at h
  simp only [Bool.or_eq_false_iff, decide_eq_false_iff_not, List.any_eq_false] at h
  refine ⟨by omega, fun q hq => ?_⟩
  have := h.2 q hq
  simp only [bigE, Bool.or_eq_true, decide_eq_true_eq, not_or] at this
  omega
end Go.Proofs.YtdmejcfnolhplaaGreat.Depot
/-
  Plain mathematics of an index: what is known of names, in their order; what a put answers, and what is known behind it; what was put first stays. No program.
-/
namespace Go.Proofs.YtdmejcfnolhplaaGreat.Index
open Go.RowKit Go.Lib Go.Proofs.YtdmejcfnolhplaaGreat.Span Go.Proofs.YtdmejcfnolhplaaGreat.Need Go.Proofs.YtdmejcfnolhplaaGreat.Mani Go.Proofs.YtdmejcfnolhplaaGreat.Wire Go.Proofs.YtdmejcfnolhplaaGreat.Depot
open Go.Proofs.YtdmejcfnolhplaaGreat.Label (runes fitL)
set_option linter.unusedVariables false
abbrev Kv := List Rl × Bool
abbrev Kn := ByteArray × Kv
def RisesK (l : List Kn) : Prop := l.Pairwise fun x y => nlt x.1 y.1 = true
def atX : List Kn → ByteArray → Option Kv
  | [], _ => none
  | q :: t, n => if q.1 = n then some q.2 else atX t n
theorem atX_in {l : List Kn} {n : ByteArray} {v : Kv} (h : atX l n = some v) : (n, v) ∈ l := by
  induction l with
  | nil => cases h
  | cons x t ih =>
    rw [atX] at h
    split at h
    · rename_i e
      injection h with h
      subst e h
      simp
    · exact List.mem_cons_of_mem _ (ih h)
theorem atX_mem {l : List Kn} (hr : RisesK l) {q : Kn} (hq : q ∈ l) : atX l q.1 = some q.2 := by
  induction l with
  | nil => cases hq
  | cons x t ih =>
    obtain ⟨h1, h2⟩ := List.pairwise_cons.1 hr
    rcases List.mem_cons.1 hq with rfl | hq
    · rw [atX, if_pos rfl]
    · rw [atX, if_neg (nlt_ne (h1 q hq)), ih h2 hq]
def insX (n : Kn) : Bool → List Kn → List Kn
  | i, [] => if i = true then [] else [n]
  | i, x :: t => if i = false ∧ nlt n.1 x.1 = true then n :: x :: insX n true t else x :: insX n i t
theorem insX_true (n : Kn) (l : List Kn) : insX n true l = l := by
  induction l with
  | nil => rfl
  | cons x t ih => rw [insX, if_neg (by simp), ih]
theorem insX_lt {n x : Kn} {t : List Kn} (h : nlt n.1 x.1 = true) : insX n false (x :: t) = n :: x :: t := by rw [insX, if_pos ⟨rfl, h⟩, insX_true]
theorem insX_ge {n x : Kn} {t : List Kn} (h : nlt n.1 x.1 = false) : insX n false (x :: t) = x :: insX n false t := by rw [insX, if_neg (by rw [h]; simp)]
theorem insX_mem (n : Kn) (l : List Kn) {z : Kn} : z ∈ insX n false l ↔ z = n ∨ z ∈ l := by
  induction l with
  | nil => simp [insX]
  | cons y t ih =>
    cases h : nlt n.1 y.1 with
    | true => rw [insX_lt h]; simp
    | false =>
      rw [insX_ge h, List.mem_cons, List.mem_cons, ih]
      constructor
      · rintro (h | h | h)
        · exact .inr (.inl h)
        · exact .inl h
        · exact .inr (.inr h)
      · rintro (h | h | h)
        · exact .inr (.inl h)
        · exact .inl h
        · exact .inr (.inr h)
theorem insX_len (n : Kn) (l : List Kn) : (insX n false l).length = l.length + 1 := by
  induction l with
  | nil => rfl
  | cons y t ih =>
    cases h : nlt n.1 y.1 with
    | true => rw [insX_lt h]; simp
    | false => rw [insX_ge h]; simp [ih]
theorem insX_rises {n : Kn} {l : List Kn} (hl : RisesK l) (hn : ∀ q ∈ l, q.1 ≠ n.1) : RisesK (insX n false l) := by
  induction l with
  | nil => exact List.pairwise_singleton _ _
  | cons y t ih =>
    obtain ⟨h1, h2⟩ := List.pairwise_cons.1 hl
    cases h : nlt n.1 y.1 with
    | true =>
      rw [insX_lt h]
      refine List.pairwise_cons.2 ⟨fun z hz => ?_, hl⟩
      rcases List.mem_cons.1 hz with rfl | hz
      · exact h
      · exact nlt_trans h (h1 z hz)
    | false =>
      rw [insX_ge h]
      refine List.pairwise_cons.2 ⟨fun z hz => ?_, ih h2 fun q hq => hn q (by simp [hq])⟩
      rcases (insX_mem n t).1 hz with rfl | hz
      · rcases nlt_cases y.1 z.1 with g | g | g
        · exact g
        · exact absurd g (hn y (by simp))
        · rw [g] at h; cases h
      · exact h1 z hz
theorem insX_at {n : Kn} {l : List Kn} (hn : ∀ q ∈ l, q.1 ≠ n.1) (nm : ByteArray) : atX (insX n false l) nm = if n.1 = nm then some n.2 else atX l nm := by
  induction l with
  | nil => rfl
  | cons y t ih =>
    cases h : nlt n.1 y.1 with
    | true => rw [insX_lt h, atX]
    | false =>
      rw [insX_ge h, atX, atX, ih fun q hq => hn q (by simp [hq])]
      by_cases e : y.1 = nm
      · rw [if_pos e, if_pos e, if_neg (fun g => hn y (by simp) (by rw [e, g]))]
      · rw [if_neg e, if_neg e]
def mayX (nm : ByteArray) (b : List UInt8) : Bool := fitL (runes nm 0) && decide (b.length ≤ 8192)
def errX (l : List Kn) (nm : ByteArray) (b : List UInt8) : Int := if mayX nm b = false then 1 else if (atX l nm).isSome = true then 6 else 0
def valX (nm : ByteArray) (b : List UInt8) : Kv := (relE nm b, goodE nm b)
def putX (l : List Kn) (nm : ByteArray) (b : List UInt8) : List Kn := if errX l nm b = 0 then insX (nm, valX nm b) false l else l
theorem errX_zero {l : List Kn} {nm : ByteArray} {b : List UInt8} : errX l nm b = 0 ↔ mayX nm b = true ∧ atX l nm = none := by
  unfold errX
  cases h : mayX nm b <;> cases g : atX l nm <;> simp
theorem notin_of {l : List Kn} (hr : RisesK l) {nm : ByteArray} (h : atX l nm = none) : ∀ q ∈ l, q.1 ≠ nm := fun q hq e => by
  have := atX_mem hr hq
  rw [e, h] at this
  cases this
theorem putX_rises {l : List Kn} (hr : RisesK l) (nm : ByteArray) (b : List UInt8) : RisesK (putX l nm b) := by
  unfold putX
  split
  · rename_i h
    exact insX_rises hr (notin_of hr (errX_zero.1 h).2)
  · exact hr
theorem putX_len (l : List Kn) (nm : ByteArray) (b : List UInt8) : (putX l nm b).length = l.length + if errX l nm b = 0 then 1 else 0 := by
  unfold putX
  by_cases h : errX l nm b = 0
  · rw [if_pos h, if_pos h, insX_len]
  · rw [if_neg h, if_neg h]; rfl
def putsX (l : List Kn) (es : List En) : List Kn := es.foldl (fun l e => putX l e.1 e.2) l
theorem putsX_snoc (l : List Kn) (es : List En) (e : En) : putsX l (es ++ [e]) = putX (putsX l es) e.1 e.2 := by unfold putsX; rw [List.foldl_append]; rfl
theorem putsX_take {l : List Kn} {es : List En} {i : Nat} {e : En} (h : es[i]? = some e) : putsX l (es.take (i + 1)) = putX (putsX l (es.take i)) e.1 e.2 := by rw [take_snoc' es i e h, putsX_snoc]
theorem putsX_rises {l : List Kn} (hr : RisesK l) (es : List En) : RisesK (putsX l es) := by
  induction es generalizing l with
  | nil => exact hr
  | cons e t ih => exact ih (putX_rises hr e.1 e.2)
theorem putsX_len (l : List Kn) (es : List En) : (putsX l es).length ≤ l.length + es.length := by
  induction es generalizing l with
  | nil => exact Nat.le_refl _
  | cons e t ih =>
    have h1 := ih (l := putX l e.1 e.2)
    have h2 := putX_len l e.1 e.2
    rw [List.length_cons]
    show (putsX (putX l e.1 e.2) t).length ≤ _
    split at h2 <;> omega
def getX (l : List Kn) (nm : ByteArray) : Kv := (atX l nm).getD ([], false)
end Go.Proofs.YtdmejcfnolhplaaGreat.Index
/-
  Slices of entries and of manifests in memory: what came in with a call, and what the call makes. No condition.
-/
namespace Go.Proofs.YtdmejcfnolhplaaGreat.Depot
open Go.RowKit Go.Lib Go.Proofs.YtdmejcfnolhplaaGreat.Span Go.Proofs.YtdmejcfnolhplaaGreat.Need Go.Proofs.YtdmejcfnolhplaaGreat.Mani Go.Proofs.YtdmejcfnolhplaaGreat.Wire
set_option linter.unusedVariables false
abbrev Tell (β : Type) := World → Nat → Option Addr → Nat → β → Prop
structure Keeps {β : Type} (R : Tell β) : Prop where
  below : ∀ {w w' : World} {B n : Nat} {A : Option Addr} {x : β}, R w B A n x → Below B w w' → R w' B A n x
  more : ∀ {w : World} {B B' n : Nat} {A : Option Addr} {x : β}, R w B A n x → B ≤ B' → R w B' A n x
def PIn {β : Type} (R : Tell β) (w : World) (B : Nat) (A : Option Addr) (n : Nat) (l : List (ByteArray × β)) : Prop :=
  ∃ rs : List Rw, Reads w B 2 A n (rcs rs) ∧ rs.length = l.length ∧ ∀ (i : Nat) (r : Rw) (q : ByteArray × β), rs[i]? = some r → l[i]? = some q → r.1 = q.1 ∧ ∃ A n c, r.2 = .slice A n c ∧ R w B A n q.2
section
variable {β : Type} {R : Tell β} {w w' : World} {B B' n k : Nat} {A : Option Addr} {l : List (ByteArray × β)}
theorem PIn.len (h : PIn R w B A n l) : l.length = n := by
  obtain ⟨rs, h1, h2, _⟩ := h
  have := h1.1
  rw [rcs_length] at this
  omega
theorem PIn.at_ (h : PIn R w B A n l) (hk : k < n) :
    ∃ ad q A' n' c', A = some ad ∧ ad.block < B ∧ l[k]? = some q ∧ R w B A' n' q.2 ∧ w.cell? (ad.add (k * 2)) = some (.string q.1) ∧ w.cell? ⟨(ad.add (k * 2)).block, (ad.add (k * 2)).off + 1, none⟩ = some (.slice A' n' c') := by
  have hl := h.len
  obtain ⟨rs, h1, h2, h3⟩ := h
  obtain ⟨ad, hA, hb, hc⟩ := h1.2 (by omega)
  have hr : k < rs.length := by omega
  obtain ⟨e1, A', n', c', e2, hs⟩ := h3 k rs[k] (l[k]'(by omega)) (by simp) (by simp)
  obtain ⟨g1, g2⟩ := rcs_get rs k rs[k] (by simp)
  refine ⟨ad, l[k]'(by omega), A', n', c', hA, hb, by simp, hs, ?_, ?_⟩
  · rw [← e1]; exact hc _ _ g1
  · rw [← add_field, ← e2]; exact hc _ _ g2
theorem PIn.below (hR : Keeps R) (h : PIn R w B A n l) (hb : Below B w w') : PIn R w' B A n l := by
  obtain ⟨rs, h1, h2, h3⟩ := h
  refine ⟨rs, h1.below hb, h2, fun i r q hr hq => ?_⟩
  obtain ⟨e1, A', n', c', e2, hs⟩ := h3 i r q hr hq
  exact ⟨e1, A', n', c', e2, hR.below hs hb⟩
theorem PIn.more (hR : Keeps R) (h : PIn R w B A n l) (hb : B ≤ B') : PIn R w B' A n l := by
  obtain ⟨rs, h1, h2, h3⟩ := h
  refine ⟨rs, h1.more hb, h2, fun i r q hr hq => ?_⟩
  obtain ⟨e1, A', n', c', e2, hs⟩ := h3 i r q hr hq
  exact ⟨e1, A', n', c', e2, hR.more hs hb⟩
theorem PIn.nil (R : Tell β) (w : World) (B : Nat) (A : Option Addr) : PIn R w B A 0 [] := ⟨[], ⟨rfl, fun h => absurd h (by omega)⟩, rfl, fun i r q hr _ => by simp at hr⟩
end
theorem pin_row {β γ : Type} {R : Tell β} {L : Lie γ} {w : World} {A : Option Addr} {n : Nat} {l : List (ByteArray × List γ)} (f : List γ → β)
    (hf : ∀ (A : Option Addr) (n : Nat) (x : List γ), RowOf L w w.heap.size A n x → R w w.heap.size A n (f x)) (h : RowOf (liePair lieStr (lieSlice L)) w w.heap.size A n l) :
    PIn R w w.heap.size A n (l.map fun q => (q.1, f q.2)) ∧ ∀ q ∈ l, q.1.size ≤ maxLen ∧ q.2.length ≤ maxLen := by
  have key : ∀ i, i < n → ∃ r : Rw, ∃ ad q A' n' c', A = some ad ∧ ad.block < w.heap.size ∧ l[i]? = some q ∧ r = (q.1, .slice A' n' c') ∧ CellsAt w (ad.add (i * 2)) [.string q.1, .slice A' n' c'] ∧ R w w.heap.size A' n' (f q.2) ∧ q.1.size ≤ maxLen ∧ q.2.length ≤ maxLen := by
    intro i hi
    obtain ⟨ad, q, cs, hA, hB, hq, h1, c1, c2, e, ⟨e1, hs⟩, ⟨A', n', c', e2, hn, hm, _, hr⟩⟩ := h.at_ hi
    subst e e1 e2
    exact ⟨_, ad, q, A', n', c', hA, hB, hq, rfl, h1, hf _ _ _ hr, hs, by rw [hr.1]; omega⟩
  obtain ⟨rs, hl, hp⟩ := list_of n _ key
  refine ⟨⟨rs, ⟨by rw [rcs_length, hl], fun hn => ?_⟩, by rw [hl, List.length_map, h.1], fun i r q hr hq => ?_⟩, fun q hq => ?_⟩
  · obtain ⟨_, ad, _, _, _, _, hA, hB, _⟩ := key 0 hn
    refine ⟨ad, hA, hB, fun j u hu => ?_⟩
    have hj : j < rs.length * 2 := by
      have := (List.getElem?_eq_some_iff.1 hu).1
      rwa [rcs_length] at this
    have hr : rs[j / 2]? = some (rs[j / 2]'(by omega)) := by simp
    obtain ⟨ad', q, A', n', c', hA', _, hq, e, hc, _⟩ := hp _ _ hr
    rw [hA] at hA'
    injection hA' with hA'
    subst hA'
    obtain ⟨g1, g2⟩ := rcs_get rs _ _ hr
    rw [e] at g1 g2
    rcases Nat.mod_two_eq_zero_or_one j with h0 | h0
    · have ej : j = j / 2 * 2 := by omega
      rw [ej, g1] at hu
      injection hu with hu
      subst hu
      have := hc 0 (by simp)
      rw [add_of_add, Nat.add_zero, ← ej] at this
      simpa using this
    · have ej : j = j / 2 * 2 + 1 := by omega
      rw [ej, g2] at hu
      injection hu with hu
      subst hu
      have := hc 1 (by simp)
      rw [add_of_add, ← ej] at this
      simpa using this
  · obtain ⟨ad', q', A', n', c', _, _, hq', e, _, hN, _⟩ := hp _ _ hr
    rw [List.getElem?_map, hq'] at hq
    simp only [Option.map_some, Option.some.injEq] at hq
    subst hq
    exact ⟨by rw [e], A', n', c', by rw [e], hN⟩
  · obtain ⟨i, hi, rfl⟩ := List.getElem_of_mem hq
    obtain ⟨r, ad', q', A', n', c', _, _, hq', e, _, hN, h5, h6⟩ := key i (by rw [← h.1]; exact hi)
    rw [List.getElem?_eq_getElem hi] at hq'
    injection hq' with hq'
    rw [hq']
    exact ⟨h5, h6⟩
/-! Entries. -/
def byR : Tell (List UInt8) := fun w B A n b => Reads w B 1 A n (bcs b)
theorem byR_keeps : Keeps byR := ⟨fun h hb => Reads.below h hb, fun h hb => Reads.more h hb⟩
def EnIn := PIn byR
def EnOn (w : World) (A : Option Addr) (n : Nat) (l : List En) : Prop := EnIn w w.heap.size A n l
theorem EnIn.below {w w' : World} {B n : Nat} {A : Option Addr} {l : List En} (h : EnIn w B A n l) (hb : Below B w w') : EnIn w' B A n l := PIn.below byR_keeps h hb
theorem EnIn.more {w : World} {B B' n : Nat} {A : Option Addr} {l : List En} (h : EnIn w B A n l) (hb : B ≤ B') : EnIn w B' A n l := PIn.more byR_keeps h hb
theorem EnOn.on {w w' : World} {A : Option Addr} {n : Nat} {l : List En} (h : EnOn w A n l) (hb : Below w.heap.size w w') : EnOn w' A n l := (EnIn.below h hb).more hb.size
theorem EnOn.nil (w : World) (A : Option Addr) : EnOn w A 0 [] := PIn.nil _ _ _ _
def toE (l : List (ByteArray × List Int)) : List En := l.map fun q => (q.1, q.2.map fun z => UInt8.ofNat z.toNat)
theorem enOn_of {w : World} {A : Option Addr} {n : Nat} {l : List (ByteArray × List Int)} (h : RowOf (liePair lieStr (lieSlice (lieInt .u8))) w w.heap.size A n l) : EnOn w A n (toE l) ∧ ∀ q ∈ toE l, q.1.size ≤ maxLen ∧ q.2.length ≤ maxLen := by
  obtain ⟨h1, h2⟩ := pin_row (R := byR) (L := lieInt .u8) (fun (x : List Int) => x.map fun (z : Int) => UInt8.ofNat z.toNat) (fun A n x hx => row_as_bytes hx) h
  refine ⟨h1, fun q hq => ?_⟩
  obtain ⟨x, hx, rfl⟩ := List.mem_map.1 hq
  have := h2 x hx
  simpa using this
/-! Manifests. -/
/-! What a call makes. -/
def InB (w : World) (A : Option Addr) (n : Nat) (b : List UInt8) : Prop :=
  Reads w w.heap.size 1 A n (bcs b) ∧ ∀ ad, A = some ad → 0 < n → ∃ cur m, w.heap[ad.block]? = some (.cells cur 5 m)
def AllB (w : World) (rs : List Rw) (l : List En) : Prop :=
  rs.length = l.length ∧ ∀ (i : Nat) (r : Rw) (q : En), rs[i]? = some r → l[i]? = some q → r.1 = q.1 ∧ ∃ A n c, r.2 = .slice A n c ∧ InB w A n q.2
section
variable {w w' w1 : World} {B n m : Nat} {v v1 : Value} {rs rs2 : List Rw} {l l2 : List En}
theorem AllB.mono (h : AllB w rs l) (hk : ∀ A n s, InB w A n s → InB w' A n s) : AllB w' rs l :=
  ⟨h.1, fun i r q hr hq => by
    obtain ⟨e1, A, n, c, e2, hs⟩ := h.2 i r q hr hq
    exact ⟨e1, A, n, c, e2, hk _ _ _ hs⟩⟩
def Ens (w : World) (B : Nat) (v : Value) (n : Nat) (rs : List Rw) (l : List En) : Prop := w.ownsRow B 57 2 v n (rcs rs) ∧ AllB w rs l
theorem Ens.told (h : Ens w B v n rs l) : ∃ A c, v = .slice A n c ∧ n ≤ c ∧ EnOn w A n l := by
  obtain ⟨A, c, rfl, hc, _, hr⟩ := own_form h.1
  exact ⟨A, c, rfl, hc, rs, hr, h.2.1, fun i r q hr hq => by
    obtain ⟨e1, A, n, c, e2, hs⟩ := h.2.2 i r q hr hq
    exact ⟨e1, A, n, c, e2, hs.1⟩⟩
theorem Ens.len (h : Ens w B v n rs l) : l.length = n := by
  obtain ⟨A, c, _, _, h1⟩ := h.told
  exact PIn.len h1
end
end Go.Proofs.YtdmejcfnolhplaaGreat.Depot
/-
  The contract of the program's Check: which depots may be; which entries are large. Condition: the slices read as entries; names as long as a text may be.
-/
namespace Go.Proofs.YtdmejcfnolhplaaGreat.Depot
open Go.RowKit Go.Lib Go.Proofs.YtdmejcfnolhplaaGreat.Span Go.Proofs.YtdmejcfnolhplaaGreat.Need Go.Proofs.YtdmejcfnolhplaaGreat.Mani Go.Proofs.YtdmejcfnolhplaaGreat.Wire
open Go.Proofs.YtdmejcfnolhplaaGreat.Label (runes fitL fit_any)
set_option linter.unusedVariables false
set_option maxHeartbeats 2000000 in
theorem largeE_any (l : List En) (A : Option Addr) (n c : Nat) (w : World) (h : EnOn w A n l) (hn : n ≤ 9223372036854775807) :
    Calls Tryz.prog 5 #[.slice A n c] w (Tells w (.bool (largeE l))) := by
  unfold Tells
  have hlen := h.len
  by_cases hb : 30 < n
  · have e : largeE l = true := by unfold largeE; rw [decide_eq_true (by omega)]; rfl
    rw [e]
    clear e h hlen
    go_enter Tryz.func5, Tryz.ntmps5
    go_wp2
    go_ret
    exact ⟨rfl, Below.refl _ _⟩
  · have e : largeE l = l.any bigE := by unfold largeE; rw [decide_eq_false (by omega)]; rfl
    have Hl : Hid (largeE l = l.any bigE) := hide e
    have Hd := hide (fun i q => @anyE_drop l i q)
    clear e
    generalize largeE l = L at *
    have hlen' := hide hlen
    clear hlen
    go_enter Tryz.func5, Tryz.ntmps5
    go_wp2
    go_loopw [3] (fun v wr => ∃ i : Nat, i ≤ n ∧ v = .int .i64 (i : Int) ∧ Hid (L = (l.drop i).any bigE) ∧ Below w.heap.size w wr) (fun v _ => n - (RowKit.intOf v).toNat)
    case atStart => exact ⟨0, by omega, rfl, Hl, Below.refl _ _⟩
    case round =>
      obtain ⟨i, hi, rfl, hf, hbw⟩ := hrel
      by_cases hlt : i < n
      · obtain ⟨ad, q, A', n', c', rfl, hbl, hx, hs, c1, c2⟩ := PIn.at_ (EnIn.below h hbw) hlt
        have hq := (Hd.out i q hx)
        obtain ⟨nm, s⟩ := q
        have hsl : s.length = n' := by have : (bcs s).length = n' * 1 := hs.1; rw [bcs_length] at this; omega
        have Hq : Hid ((l.drop i).any bigE = (decide (200 < nm.size) || decide (9000 < n') || (l.drop (i + 1)).any bigE)) := hide (by rw [hq, ← hsl]; rfl)
        simp only [] at c1 c2
        have hf2 := hf.out.trans Hq.out
        have Hf2 := hide hf2
        clear hq hx hsl hs hf Hq hf2 h Hd
        by_cases h1 : 200 < nm.size
        · have e : L = true := by rw [Hf2.out, decide_eq_true h1]; rfl
          subst e
          clear Hf2
          have h1z : (200 : Int) < (nm.size : Int) := by omega
          go_wp2
          go_ret
          exact ⟨rfl, hbw⟩
        · have h1z : ¬ (200 : Int) < (nm.size : Int) := by omega
          by_cases h2 : 9000 < n'
          · have e : L = true := by rw [Hf2.out, decide_eq_true h2]; simp
            subst e
            clear Hf2
            have h2z : (9000 : Int) < (n' : Int) := by omega
            go_wp2
            go_ret
            exact ⟨rfl, hbw⟩
          · have h2z : ¬ (9000 : Int) < (n' : Int) := by omega
            have e : Hid (L = (l.drop (i + 1)).any bigE) := hide (by rw [Hf2.out, decide_eq_false h1, decide_eq_false h2]; rfl)
            clear Hf2
            go_wp2
            go_roundw
            case rel => exact ⟨i + 1, by omega, by go_num, e, hbw⟩
            case measure => simp [RowKit.intOf]; omega
      · have hi2 : i = n := by omega
        have e : Hid (L = false) := hide (by rw [hf.out, List.drop_of_length_le (by have := hlen'.out; omega)]; rfl)
        clear hf
        go_wp2
        go_ret
        exact ⟨by rw [e.out]; rfl, hbw⟩
end Go.Proofs.YtdmejcfnolhplaaGreat.Depot

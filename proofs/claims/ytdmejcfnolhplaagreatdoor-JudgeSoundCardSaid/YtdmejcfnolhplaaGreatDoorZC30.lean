/-
  Some texts of this claim, one behind the other: ClashMapT. What each proves, and its condition, stands at its head.
-/
import Derived.Test.YtdmejcfnolhplaaGreatDoorZC27
import Derived.Test.YtdmejcfnolhplaaGreatDoorZC18
import Derived.Test.YtdmejcfnolhplaaGreatDoorZC20
/-
  A map of terms that a call makes: what it holds of each name (the terms of that name, met), what looking up and putting in do, and which names its sorted keys are. No condition.
-/
namespace Go.Proofs.YtdmejcfnolhplaaGreatDoor.Clash
open Go Go.RowKit Go.Lib Go.Maps Go.Sort Go.Proofs.YtdmejcfnolhplaaGreatDoor.Span Go.Proofs.YtdmejcfnolhplaaGreatDoor.Need Go.Proofs.YtdmejcfnolhplaaGreatDoor.Mani Go.Proofs.YtdmejcfnolhplaaGreatDoor.Term Go.Proofs.YtdmejcfnolhplaaGreatDoor.MapV
set_option linter.unusedVariables false
theorem sorted_f {w : World} {b n : Nat} {D : DataW Value} {f : ByteArray → Option Value} {L : List ByteArray} (hown : w.ownsMap Tryz.prog 9 valElem b n D) (ht : ToldF D f) (hr : L.Pairwise fun x y => nlt x y = true) (look : ∀ nm, (f nm).isSome = true ↔ nm ∈ L) {ss : List (List UInt8)} (hp : ss.Perm (strKeys D)) :
    ss.mergeSort (fun x y => decide (x ≤ y)) = L.map bytesOf := by
  have hlt : (L.map bytesOf).Pairwise (fun x y => x < y) := List.pairwise_map.2 (hr.imp fun h => bytes_lt h)
  have hC : Collected D (fun _ => false) (L.map bytesOf) := ⟨hlt.imp fun {a b} h e => by rw [e] at h; exact List.lt_irrefl _ h, fun x => by
    have e : bytesOf (⟨x.toArray⟩ : ByteArray) = x := by simp [bytesOf]
    have h2 := ht.2.1 ⟨x.toArray⟩
    rw [e] at h2
    rw [h2, look, List.mem_map]
    constructor
    · rintro ⟨y, hy, hyx⟩
      refine ⟨?_, rfl⟩
      rw [show (⟨x.toArray⟩ : ByteArray) = y from bytesOf_inj (by rw [e, hyx])]
      exact hy
    · rintro ⟨hy, _⟩
      exact ⟨_, hy, e⟩⟩
  have hP := hC.perm hown keyed Tryz.underlying9 fun _ => rfl
  have h1 := mergeSort_of_perm (hp.trans hP.symm)
  refine h1.trans ?_
  refine List.mergeSort_of_pairwise (hlt.imp fun h => ?_)
  simp only [leB, decide_eq_true_eq]
  exact List.le_of_lt h
theorem farT_map {w : World} {n b : Nat} {f : ByteArray → Option Value} (T : TypeId) (g : OwnTold w b n f) : FarT w T (some b) := by
  intro k cur m h e
  obtain ⟨es, clock, hb⟩ := g.block
  injection e with e
  rw [e, hb] at h
  injection h with h
  cases h
def IsTm (w : World) (v : Value) (t : Tm) : Prop := ∃ A k e, v = .agg #[.string t.name, .slice A k e, .bool t.none] ∧ InS w 0 A k t.set
def MapC (w : World) (b n : Nat) (c : List Tm) : Prop :=
  ∃ f, OwnTold w b n f ∧ (∀ nm, (f nm).isSome = (findC c nm).isSome) ∧ ∀ nm t, findC c nm = some t → ∃ v, f nm = some v ∧ IsTm w v t
section
variable {w w' : World} {b n m : Nat} {c : List Tm}
theorem IsTm.below {v : Value} {t : Tm} (h : IsTm w v t) (hb : Below w.heap.size w w') : IsTm w' v t := by
  obtain ⟨A, k, e, h1, h2⟩ := h
  exact ⟨A, k, e, h1, h2.below hb⟩
theorem MapC.made (w : World) : MapC (w.alloc (.map #[] 0)) w.heap.size 0 [] := ⟨_, OwnTold.made w, fun _ => rfl, fun nm t h => by cases h⟩
theorem MapC.lt (h : MapC w b n c) : b < w.heap.size := by obtain ⟨f, h1, _⟩ := h; exact h1.lt
theorem MapC.below (h : MapC w b n c) (hb : Below w.heap.size w w') : MapC w' b n c := by
  obtain ⟨f, h1, h3, h4⟩ := h
  refine ⟨f, h1.below hb, h3, fun nm t ht => ?_⟩
  obtain ⟨v, h5, h6⟩ := h4 nm t ht
  exact ⟨v, h5, h6.below hb⟩
theorem zero_term (w : World) : (zeroValue 145).run Tryz.prog w = .ok (.agg #[.string ⟨#[]⟩, .slice none 0 0, .bool false]) w := by
  obtain ⟨i0, hi0, hz0, hz1, hz2⟩ := info_parts info_term
  simp [zeroValue, typeInfo, hi0, hz0]
  rfl
theorem MapC.look_ok (h : MapC w b n c) {nm : ByteArray} (hs : nm.size ≤ maxLen) :
    (findC c nm = none ∧ (Instr.lookup 169 (.map (some b)) (.string nm) true).run Tryz.prog w = .ok (.tuple #[.agg #[.string ⟨#[]⟩, .slice none 0 0, .bool false], .bool false]) w) ∨
    ∃ t A k e, findC c nm = some t ∧ InS w 0 A k t.set ∧ (Instr.lookup 169 (.map (some b)) (.string nm) true).run Tryz.prog w = .ok (.tuple #[.agg #[.string t.name, .slice A k e, .bool t.none], .bool true]) w := by
  obtain ⟨f, h1, h3, h4⟩ := h
  have hl := h1.look_ok Tryz.underlying169 (zero_term w) hs
  cases hc : findC c nm with
  | none =>
    have h5 := h3 nm
    rw [hc] at h5
    have h6 : f nm = none := by cases g : f nm with
      | none => rfl
      | some v => rw [g] at h5; cases h5
    rw [h6] at hl
    exact .inl ⟨rfl, hl⟩
  | some t =>
    obtain ⟨v, h5, A, k, e, rfl, h6⟩ := h4 nm t hc
    rw [h5] at hl
    exact .inr ⟨t, A, k, e, rfl, h6, hl⟩
theorem MapC.look (h : MapC w b n c) {nm : ByteArray} (hs : nm.size ≤ maxLen) {t : Tm} (hc : findC c nm = some t) :
    ∃ A k e, InS w 0 A k t.set ∧ (Instr.lookup 169 (.map (some b)) (.string nm) false).run Tryz.prog w = .ok (.agg #[.string t.name, .slice A k e, .bool t.none]) w := by
  obtain ⟨f, h1, h3, h4⟩ := h
  have hl := h1.look Tryz.underlying169 (zero_term w) hs
  obtain ⟨v, h5, A, k, e, rfl, h6⟩ := h4 nm t hc
  rw [h5] at hl
  exact ⟨A, k, e, h6, hl⟩
theorem MapC.put {f : ByteArray → Option Value} (h1 : OwnTold w b n f) (h3 : ∀ nm, (f nm).isSome = (findC c nm).isSome) (h4 : ∀ nm t, findC c nm = some t → ∃ v, f nm = some v ∧ IsTm w v t) (hr : RisesC c) {t x : Tm} {v : Value} (hv : IsTm w v x)
    (hx : x = match findC c t.name with | some y => meetT y t | none => t) (h6 : OwnTold w' b m (fun a => if t.name = a then some v else f a)) (hg : w.grownBy w' (some b)) : MapC w' b m (putC t false c) := by
  have keep : ∀ {v t}, IsTm w v t → IsTm w' v t := fun {v t} h => by
    obtain ⟨A, k, e, g1, g2⟩ := h
    exact ⟨A, k, e, g1, insFar g2 (farT_map _ h1) hg⟩
  refine ⟨_, h6, fun nm => ?_, fun nm y hy => ?_⟩
  · rw [find_put hr]
    by_cases g : t.name = nm
    · simp only [if_pos g, if_pos g.symm]; rfl
    · simp only [if_neg g, if_neg (fun e : nm = t.name => g e.symm), h3]
  · rw [find_put hr] at hy
    by_cases g : t.name = nm
    · rw [if_pos g.symm, ← g] at hy
      simp only [if_pos g]
      injection hy with hy
      have hxy : x = y := hx.trans hy
      subst hxy
      exact ⟨v, rfl, keep hv⟩
    · rw [if_neg (fun e : nm = t.name => g e.symm)] at hy
      simp only [if_neg g]
      obtain ⟨u, h5, h6⟩ := h4 nm y hy
      exact ⟨u, h5, keep h6⟩
theorem MapC.store (h : MapC w b n c) (hr : RisesC c) (hn : n < maxLen) {t z : Tm} {A : Option Addr} {k e : Nat} (hI : InS w 0 A k z.set) (hz : z = match findC c t.name with | some y => meetT y t | none => t) (hs : t.name.size ≤ maxLen) :
    ∃ w', (Instr.mapUpdate 169 (.map (some b)) (.string t.name) (.agg #[.string z.name, .slice A k e, .bool z.none])).run Tryz.prog w = .ok () w' ∧ MapC w' b (n + 1) (putC t false c) ∧ w.grownBy w' (some b) := by
  obtain ⟨f, h1, h3, h4⟩ := h
  obtain ⟨w', r0, r1, r3⟩ := h1.put Tryz.underlying169 hn hs (.agg #[.string z.name, .slice A k e, .bool z.none])
  exact ⟨w', r0, MapC.put h1 h3 h4 hr ⟨A, k, e, rfl, hI⟩ hz r1 r3.grown, r3.grown⟩
theorem MapC.sorted (h : MapC w b n c) (hr : RisesC c) : ∃ D, w.ownsMap Tryz.prog 9 valElem b n D ∧ Maps.size D ≤ n ∧ ∀ ss : List (List UInt8), ss.Perm (strKeys D) → ss.mergeSort (fun x y => decide (x ≤ y)) = (c.map fun t => t.name).map bytesOf := by
  obtain ⟨f, ⟨D, h1, h2⟩, h3, h4⟩ := h
  refine ⟨D, h1, h1.size_le, fun ss hp => sorted_f h1 h2 (names_rise hr) (fun nm => ?_) hp⟩
  rw [h3]
  unfold findC
  rw [List.find?_isSome, List.mem_map]
  simp
end
theorem meet_fullT {t : Tm} (h : okT t = true) : meetT (fullOf t.name) t = t := by
  rw [meet_same (a := fullOf t.name) (b := t) rfl]
  obtain ⟨nm, s, z⟩ := t
  show (⟨nm, meetS allS s, true && z⟩ : Tm) = ⟨nm, s, z⟩
  have hs := okT_set h
  have e : meetS allS s = s := (is_nf hs fun p p0 p1 => by show has s p = (has allS p && has s p); rw [a_has p0 p1, Bool.true_and]).symm
  rw [e, Bool.true_and]
end Go.Proofs.YtdmejcfnolhplaaGreatDoor.Clash

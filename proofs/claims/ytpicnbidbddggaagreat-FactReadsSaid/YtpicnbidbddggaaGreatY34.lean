/-
  Some texts of this claim, one behind the other: ClashMapT, TermAwake, ClashSpec, ClashFind. What each proves, and its condition, stands at its head.
-/
import Derived.Test.YtpicnbidbddggaaGreatY22
import Derived.Test.YtpicnbidbddggaaGreatY26
import Derived.Test.YtpicnbidbddggaaGreatY33
import Derived.Test.YtpicnbidbddggaaGreatY25
import Derived.Test.YtpicnbidbddggaaGreatY24
import Derived.Test.YtpicnbidbddggaaGreatY32
import Derived.Test.YtpicnbidbddggaaGreatY9
/-
  A map of terms that a call makes: what it holds of each name (the terms of that name, met), what looking up and putting in do, and which names its sorted keys are. No condition.
-/
namespace Go.Proofs.YtpicnbidbddggaaGreat.Clash
open Go Go.RowKit Go.Lib Go.Maps Go.Sort Go.Proofs.YtpicnbidbddggaaGreat.Span Go.Proofs.YtpicnbidbddggaaGreat.Need Go.Proofs.YtpicnbidbddggaaGreat.Mani Go.Proofs.YtpicnbidbddggaaGreat.Term Go.Proofs.YtpicnbidbddggaaGreat.MapV
set_option linter.unusedVariables false
theorem sorted_f {w : World} {b n : Nat} {D : DataW Value} {f : ByteArray → Option Value} {L : List ByteArray} (hown : w.ownsMap Tryz.prog 9 valElem b n D) (ht : ToldF D f) (hr : L.Pairwise fun x y => nlt x y = true) (look : ∀ nm, (f nm).isSome = true ↔ nm ∈ L) {ss : List (List UInt8)} (hp : ss.Perm (strKeys D)) :
    ss.mergeSort (fun x y => decide (x ≤ y)) = L.map bytesOf := by
  have hlt : (L.map bytesOf).Pairwise (fun x y => x < y) := List.pairwise_map.2 (hr.imp fun h => bytes_lt h)
  have hC : Collected D (fun _ => false) (L.map bytesOf) := ⟨hlt.imp fun {a b} h e => by rw [e] at h; exact List.lt_irrefl _ h, fun x => by
    have e : bytesOf (⟨x.toArray⟩ : ByteArray) = x := by simp [bytesOf]
    have h2 := ht.2.1 ⟨x.toArray⟩
    rw [e] at h2
    rw [h2, look, List.mem_map]
    constructor
    · rintro ⟨y, hy, hyx⟩
      refine ⟨?_, rfl⟩
      rw [show (⟨x.toArray⟩ : ByteArray) = y from bytesOf_inj (by rw [e, hyx])]
      exact hy
    · rintro ⟨hy, _⟩
      exact ⟨_, hy, e⟩⟩
  have hP := hC.perm hown keyed Tryz.underlying9 fun _ => rfl
  have h1 := mergeSort_of_perm (hp.trans hP.symm)
  refine h1.trans ?_
  refine List.mergeSort_of_pairwise (hlt.imp fun h => ?_)
  simp only [leB, decide_eq_true_eq]
  exact List.le_of_lt h
theorem farT_map {w : World} {n b : Nat} {f : ByteArray → Option Value} (T : TypeId) (g : OwnTold w b n f) : FarT w T (some b) := by
  intro k cur m h e
  obtain ⟨es, clock, hb⟩ := g.block
  injection e with e
  rw [e, hb] at h
  injection h with h
  cases h
def IsTm (w : World) (v : Value) (t : Tm) : Prop := ∃ A k e, v = .agg #[.string t.name, .slice A k e, .bool t.none] ∧ InS w 0 A k t.set
def MapC (w : World) (b n : Nat) (c : List Tm) : Prop :=
  ∃ f, OwnTold w b n f ∧ (∀ nm, (f nm).isSome = (findC c nm).isSome) ∧ ∀ nm t, findC c nm = some t → ∃ v, f nm = some v ∧ IsTm w v t
section
variable {w w' : World} {b n m : Nat} {c : List Tm}
theorem IsTm.below {v : Value} {t : Tm} (h : IsTm w v t) (hb : Below w.heap.size w w') : IsTm w' v t := by
  obtain ⟨A, k, e, h1, h2⟩ := h
  exact ⟨A, k, e, h1, h2.below hb⟩
theorem MapC.made (w : World) : MapC (w.alloc (.map #[] 0)) w.heap.size 0 [] := ⟨_, OwnTold.made w, fun _ => rfl, fun nm t h => by cases h⟩
theorem MapC.lt (h : MapC w b n c) : b < w.heap.size := by obtain ⟨f, h1, _⟩ := h; exact h1.lt
theorem MapC.below (h : MapC w b n c) (hb : Below w.heap.size w w') : MapC w' b n c := by
  obtain ⟨f, h1, h3, h4⟩ := h
  refine ⟨f, h1.below hb, h3, fun nm t ht => ?_⟩
  obtain ⟨v, h5, h6⟩ := h4 nm t ht
  exact ⟨v, h5, h6.below hb⟩
theorem zero_term (w : World) : (zeroValue 65).run Tryz.prog w = .ok (.agg #[.string ⟨#[]⟩, .slice none 0 0, .bool false]) w := by
  obtain ⟨i0, hi0, hz0, hz1, hz2⟩ := info_parts info_term
  simp [zeroValue, typeInfo, hi0, hz0]
  rfl
theorem MapC.look_ok (h : MapC w b n c) {nm : ByteArray} (hs : nm.size ≤ maxLen) :
    (findC c nm = none ∧ (Instr.lookup 111 (.map (some b)) (.string nm) true).run Tryz.prog w = .ok (.tuple #[.agg #[.string ⟨#[]⟩, .slice none 0 0, .bool false], .bool false]) w) ∨
    ∃ t A k e, findC c nm = some t ∧ InS w 0 A k t.set ∧ (Instr.lookup 111 (.map (some b)) (.string nm) true).run Tryz.prog w = .ok (.tuple #[.agg #[.string t.name, .slice A k e, .bool t.none], .bool true]) w := by
  obtain ⟨f, h1, h3, h4⟩ := h
  have hl := h1.look_ok Tryz.underlying111 (zero_term w) hs
  cases hc : findC c nm with
  | none =>
    have h5 := h3 nm
    rw [hc] at h5
    have h6 : f nm = none := by cases g : f nm with
      | none => rfl
      | some v => rw [g] at h5; cases h5
    rw [h6] at hl
    exact .inl ⟨rfl, hl⟩
  | some t =>
    obtain ⟨v, h5, A, k, e, rfl, h6⟩ := h4 nm t hc
    rw [h5] at hl
    exact .inr ⟨t, A, k, e, rfl, h6, hl⟩
theorem MapC.look (h : MapC w b n c) {nm : ByteArray} (hs : nm.size ≤ maxLen) {t : Tm} (hc : findC c nm = some t) :
    ∃ A k e, InS w 0 A k t.set ∧ (Instr.lookup 111 (.map (some b)) (.string nm) false).run Tryz.prog w = .ok (.agg #[.string t.name, .slice A k e, .bool t.none]) w := by
  obtain ⟨f, h1, h3, h4⟩ := h
  have hl := h1.look Tryz.underlying111 (zero_term w) hs
  obtain ⟨v, h5, A, k, e, rfl, h6⟩ := h4 nm t hc
  rw [h5] at hl
  exact ⟨A, k, e, h6, hl⟩
theorem MapC.put {f : ByteArray → Option Value} (h1 : OwnTold w b n f) (h3 : ∀ nm, (f nm).isSome = (findC c nm).isSome) (h4 : ∀ nm t, findC c nm = some t → ∃ v, f nm = some v ∧ IsTm w v t) (hr : RisesC c) {t x : Tm} {v : Value} (hv : IsTm w v x)
    (hx : x = match findC c t.name with | some y => meetT y t | none => t) (h6 : OwnTold w' b m (fun a => if t.name = a then some v else f a)) (hg : w.grownBy w' (some b)) : MapC w' b m (putC t false c) := by
  have keep : ∀ {v t}, IsTm w v t → IsTm w' v t := fun {v t} h => by
    obtain ⟨A, k, e, g1, g2⟩ := h
    exact ⟨A, k, e, g1, insFar g2 (farT_map _ h1) hg⟩
  refine ⟨_, h6, fun nm => ?_, fun nm y hy => ?_⟩
  · rw [find_put hr]
    by_cases g : t.name = nm
    · simp only [if_pos g, if_pos g.symm]; rfl
    · simp only [if_neg g, if_neg (fun e : nm = t.name => g e.symm), h3]
  · rw [find_put hr] at hy
    by_cases g : t.name = nm
    · rw [if_pos g.symm, ← g] at hy
      simp only [if_pos g]
      injection hy with hy
      have hxy : x = y := hx.trans hy
      subst hxy
      exact ⟨v, rfl, keep hv⟩
    · rw [if_neg (fun e : nm = t.name => g e.symm)] at hy
      simp only [if_neg g]
      obtain ⟨u, h5, h6⟩ := h4 nm y hy
      exact ⟨u, h5, keep h6⟩
theorem MapC.store (h : MapC w b n c) (hr : RisesC c) (hn : n < maxLen) {t z : Tm} {A : Option Addr} {k e : Nat} (hI : InS w 0 A k z.set) (hz : z = match findC c t.name with | some y => meetT y t | none => t) (hs : t.name.size ≤ maxLen) :
    ∃ w', (Instr.mapUpdate 111 (.map (some b)) (.string t.name) (.agg #[.string z.name, .slice A k e, .bool z.none])).run Tryz.prog w = .ok () w' ∧ MapC w' b (n + 1) (putC t false c) ∧ w.grownBy w' (some b) := by
  obtain ⟨f, h1, h3, h4⟩ := h
  obtain ⟨w', r0, r1, r3⟩ := h1.put Tryz.underlying111 hn hs (.agg #[.string z.name, .slice A k e, .bool z.none])
  exact ⟨w', r0, MapC.put h1 h3 h4 hr ⟨A, k, e, rfl, hI⟩ hz r1 r3.grown, r3.grown⟩
theorem MapC.sorted (h : MapC w b n c) (hr : RisesC c) : ∃ D, w.ownsMap Tryz.prog 9 valElem b n D ∧ Maps.size D ≤ n ∧ ∀ ss : List (List UInt8), ss.Perm (strKeys D) → ss.mergeSort (fun x y => decide (x ≤ y)) = (c.map fun t => t.name).map bytesOf := by
  obtain ⟨f, ⟨D, h1, h2⟩, h3, h4⟩ := h
  refine ⟨D, h1, h1.size_le, fun ss hp => sorted_f h1 h2 (names_rise hr) (fun nm => ?_) hp⟩
  rw [h3]
  unfold findC
  rw [List.find?_isSome, List.mem_map]
  simp
end
theorem meet_fullT {t : Tm} (h : okT t = true) : meetT (fullOf t.name) t = t := by
  rw [meet_same (a := fullOf t.name) (b := t) rfl]
  obtain ⟨nm, s, z⟩ := t
  show (⟨nm, meetS allS s, true && z⟩ : Tm) = ⟨nm, s, z⟩
  have hs := okT_set h
  have e : meetS allS s = s := (is_nf hs fun p p0 p1 => by show has s p = (has allS p && has s p); rw [a_has p0 p1, Bool.true_and]).symm
  rw [e, Bool.true_and]
end Go.Proofs.YtpicnbidbddggaaGreat.Clash
/-
  The chapter's example of terms (awake): it holds. Condition: the tables hold what the texts lay in them.
-/
namespace Go.Proofs.YtpicnbidbddggaaGreat.Term
open Go Go.RowKit Go.Lib Go.Proofs.YtpicnbidbddggaaGreat.Span Go.Proofs.YtpicnbidbddggaaGreat.Need Go.Proofs.YtpicnbidbddggaaGreat.Grow
open Go.Proofs.YtpicnbidbddggaaGreat.Label (runes fitL)
open Go.Proofs.YtpicnbidbddggaaGreat.Rule (showL joinL partL tz tz_in)
open Go.Proofs.YtpicnbidbddggaaGreat.Ver (Tabs txt pA pB pC)
set_option linter.unusedVariables false
def exA : ByteArray := ⟨#[97]⟩
def exS : List S := [(1000000, 1000001)]
def exN : List S := [(0, 1000000), (1000001, 1000000000)]
def tmO (t : Tm) : Rel := fun w v => ∃ A n c, v = .agg #[.string t.name, .slice A n c, .bool t.none] ∧ SpOn w A n t.set
def Ans (w : World) (t : Tm) (e : Ending) (w' : World) : Prop := ∃ A n c, e = .returned (.agg #[.string t.name, .slice A n c, .bool t.none]) ∧ SpOn w' A n t.set ∧ Below w.heap.size w w'
end Go.Proofs.YtpicnbidbddggaaGreat.Term
/-
  What the program's functions of clashes have to tell, one sentence each, as premises; the statements' Large. Condition: none of its own.
-/
namespace Go.Proofs.YtpicnbidbddggaaGreat.Clash
open Go.Proofs.YtpicnbidbddggaaGreat.Pick (Pk PkOn getP okP)
open Go Go.RowKit Go.Lib Go.Proofs.YtpicnbidbddggaaGreat.Span Go.Proofs.YtpicnbidbddggaaGreat.Need Go.Proofs.YtpicnbidbddggaaGreat.Grow Go.Proofs.YtpicnbidbddggaaGreat.Term
open Go.Proofs.YtpicnbidbddggaaGreat.Label (runes fitL)
open Go.Proofs.YtpicnbidbddggaaGreat.Ver (Tabs)
set_option linter.unusedVariables false
def FineC (l : List Tm) : Prop := l.length ≤ 1000 ∧ sumC l ≤ 10000 ∧ ∀ t ∈ l, t.name.size ≤ 1000000000
theorem FineC.fine {l : List Tm} (h : FineC l) : FineT l := fun t ht => ⟨h.2.2 t ht, by have := sumC_mem ht; have := h.2.1; omega⟩
def SpecMakeC : Prop := ∀ (l : List Tm) (A : Option Addr) (n c : Nat) (w : World), TmOn w A n l → FineC l → (∀ t ∈ l, okT t = true) → Calls Tryz.prog 29 #[.slice A n c] w (MakesC w (makeC l))
def largeC (l : List Tm) : Bool := decide (40 < l.length) || l.any largeT
theorem any_drop {l : List Tm} {t : Tm} {i : Nat} (h : l[i]? = some t) : (l.drop i).any largeT = (largeT t || (l.drop (i + 1)).any largeT) := by
  obtain ⟨hi, e⟩ := List.getElem?_eq_some_iff.1 h
  rw [List.drop_eq_getElem_cons hi, e]
  rfl
end Go.Proofs.YtpicnbidbddggaaGreat.Clash
/-
  Contracts of the program's Find (and of the full term of a name). Condition: clashes that may be, of names of at most 1,000,000,000 bytes.
-/
namespace Go.Proofs.YtpicnbidbddggaaGreat.Clash
open Go Go.RowKit Go.Lib Go.Proofs.YtpicnbidbddggaaGreat.Span Go.Proofs.YtpicnbidbddggaaGreat.Need Go.Proofs.YtpicnbidbddggaaGreat.Grow Go.Proofs.YtpicnbidbddggaaGreat.Term
set_option linter.unusedVariables false
theorem all_new (w : World) :
    Calls Tryz.prog 94 #[] w fun e w' => ∃ A n c, e = .returned (.slice A n c) ∧ NewS w' w.heap.size A n c allS ∧ Below w.heap.size w w' := by
  have hrd := hide (spIn_of_reads (reads_one w 0 1000000000 _ rfl))
  go_enter Tryz.func94, Tryz.ntmps94
  go_wp2
  go_ret
  exact ⟨some ⟨w.heap.size, 0, none⟩, 1, 1, rfl, ⟨rfl, Nat.le_refl _, ⟨rfl, .inr ⟨w.heap.size, 1, _, rfl, Nat.le_refl _, heap_alloc_new w _, Nat.le_refl _, by decide, rfl, rfl⟩⟩, (hrd.out).more (by simp)⟩, (Below.refl _ _).alloc (Nat.le_refl _) _⟩
set_option maxHeartbeats 4000000 in
set_option maxRecDepth 100000 in
theorem fullC_any (nm : ByteArray) (w : World) (hnm : nm.size ≤ 1000000000) :
    Calls Tryz.prog 88 #[.string nm] w (MakesT w (fullOf nm)) := by
  unfold MakesT
  show Calls _ _ _ _ fun e w' => ∃ A n c, e = .returned (.agg #[.string nm, .slice A n c, .bool true]) ∧ NewS w' w.heap.size A n c allS ∧ Below w.heap.size w w'
  have HK := hide (fun (wx : World) => Label.clone_any nm wx hnm)
  have HA := hide (fun (wx : World) => all_new wx)
  obtain ⟨W, hW⟩ : ∃ W, W = w.alloc (.cells #[.string ⟨#[]⟩, .slice none 0 0, .bool false] 65) := ⟨_, rfl⟩
  have hbW : Below w.heap.size w W := by rw [hW]; exact alloc_b _
  have bk : Blk W w.heap.size 65 #[.string ⟨#[]⟩, .slice none 0 0, .bool false] := by rw [hW]; exact Blk.new _ _ _
  have hlW := bk.lt
  generalize allS = L at *
  clear hnm
  go_enter Tryz.func88, Tryz.ntmps88
  go_upto_region 1 with fail
  try rw [← hW]
  clear hW
  go_wp2_with (first
    | (go_at_call 53
       refine (HK.out _).mono ?_
       rintro e w1 ⟨rfl, hb1⟩
       have hs1 := hb1.size)
    | (go_at_call 94
       refine (HA.out _).mono ?_
       rintro e w2 ⟨A2, n2, c2, rfl, hN2, hb2⟩
       have hb12 := hb1.trans (hb2.mono hs1)
       have bk1 := bk.below hb12 bk.lt
       have hbw := hbW.trans (hb12.mono hbW.size)
       have k0 := bk1.cell 0
       have k1 := bk1.cell 1
       have k2 := bk1.cell 2
       have f0 := bk1.frozen 0
       have f1 := bk1.frozen 1
       have f2 := bk1.frozen 2))
  have hblk := stored_row (u := .string nm) (v := .slice A2 n2 c2) (x := .bool true) bk1 rfl
  refine bodyPost_ret (results_cell_row rfl _ _ w.heap.size 65 _ (0, 0) _ rfl hblk Tryz.underlying65 rfl rfl) rfl ?_
  exact ⟨A2, n2, c2, rfl, (three_new hN2 (by omega) _ _ _).less (by omega), three_b hbw (Nat.le_refl _) _ _ _⟩
end Go.Proofs.YtpicnbidbddggaaGreat.Clash

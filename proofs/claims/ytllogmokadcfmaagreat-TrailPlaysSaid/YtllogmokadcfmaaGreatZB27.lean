/-
  Some texts of this claim, one behind the other: TrailSpec. What each proves, and its condition, stands at its head.
-/
import Derived.Test.YtllogmokadcfmaaGreatZB25
import Derived.Test.YtllogmokadcfmaaGreatZB26
/-
  What the program's trail has to tell, whatever it is made of, as a premise: a predicate over worlds, and the types of its blocks; what a call that writes to a trail alone leaves. No condition.
-/
namespace Go.Proofs.YtllogmokadcfmaaGreat.Trail
open Go Go.RowKit Go.Lib Go.Proofs.YtllogmokadcfmaaGreat.Span Go.Proofs.YtllogmokadcfmaaGreat.Need Go.Proofs.YtllogmokadcfmaaGreat.Mani Go.Proofs.YtllogmokadcfmaaGreat.Grow Go.Proofs.YtllogmokadcfmaaGreat.Pick Go.Proofs.YtllogmokadcfmaaGreat.Term Go.Proofs.YtllogmokadcfmaaGreat.Clash
set_option linter.unusedVariables false
def errT : Nat → Int
  | 0 => 0
  | 1 => 1
  | 2 => 5
  | _ => 6
structure Keeps (TS : TypeId → Prop) (B : Nat) (w w' : World) : Prop where
  below : Below B w w'
  typed : ∀ (g : Nat) (cur : Array Value) (T : TypeId) (m : Nat × Nat), w.heap[g]? = some (.cells cur T m) → ¬ TS T → w'.heap[g]? = w.heap[g]?
section
variable {TS : TypeId → Prop} {B B0 n k g : Nat} {w w' w'' : World} {A : Option Addr} {T : TypeId}
theorem Keeps.of_below (h : Below w.heap.size w w') (hB : B ≤ w.heap.size) : Keeps TS B w w' := ⟨h.mono hB, fun g cur T m hg _ => h.block g (Array.getElem?_eq_some_iff.1 hg).1⟩
theorem Keeps.trans (h : Keeps TS B w w') (k : Keeps TS B w' w'') : Keeps TS B w w'' := ⟨h.below.trans k.below, fun g cur T m hg hT => (k.typed g cur T m ((h.typed g cur T m hg hT).trans hg) hT).trans (h.typed g cur T m hg hT)⟩
theorem Keeps.blk {cs : Array Value} (h : Keeps TS B w w') (hb : Blk w g T cs) (hT : ¬ TS T) : Blk w' g T cs := (h.typed g _ _ _ hb hT).trans hb
theorem Keeps.ins {s : List S} (h : Keeps TS B w w') (hi : InS w B0 A n s) (hS : ¬ TS 56) (hB : B0 ≤ B) : InS w' B0 A n s := by
  have key : ∀ ad, A = some ad → 0 < n → ad.block < w.heap.size ∧ w'.heap[ad.block]? = w.heap[ad.block]? := fun ad hA hn => by
    obtain ⟨ad', hA', hlt, _⟩ := hi.1.2 hn
    rw [hA] at hA'
    injection hA' with hA'
    subst hA'
    refine ⟨hlt, ?_⟩
    rcases hi.2 ad hA hn with h1 | ⟨cur, m, h1⟩
    · exact h.below.block _ (by omega)
    · exact h.typed _ _ _ _ h1 hS
  refine ⟨⟨hi.1.1, fun hn => ?_⟩, fun ad hA hn => ?_⟩
  · obtain ⟨ad, hA, hlt, hc⟩ := hi.1.2 hn
    have hk := key ad hA hn
    refine ⟨ad, hA, Nat.lt_of_lt_of_le hlt h.below.size, fun i s hs => ?_⟩
    obtain ⟨c1, c2⟩ := hc i s hs
    constructor
    · exact (World.cell?_of_block (by rw [block_of_add]; exact hk.2)).trans c1
    · exact (World.cell?_of_block (by simp only [block_of_add]; exact hk.2)).trans c2
  · have hk := key ad hA hn
    rcases hi.2 ad hA hn with h1 | ⟨cur, m, h1⟩
    · exact .inl h1
    · exact .inr ⟨cur, m, hk.2.trans h1⟩
theorem Keeps.own {base size : Nat} {v : Value} {xs : List Value} (h : Keeps TS B w w') (ho : w.ownsRow base T size v n xs) (hT : ¬ TS T) : w'.ownsRow base T size v n xs := by
  refine ⟨ho.1, ?_⟩
  rcases ho.2 with hn | ⟨g, cap, cur, hv, hg, hh, r⟩
  · exact .inl hn
  · exact .inr ⟨g, cap, cur, hv, hg, (h.typed _ _ _ _ hh hT).trans hh, r⟩
theorem Keeps.tms {v : Value} {rs : List Rt} {l : List Tm} (h : Keeps TS B w w') (ht : Tms w B0 v n rs l) (hS : ¬ TS 56) (hT : ¬ TS 38) (hB : B0 ≤ B) : Tms w' B0 v n rs l := ⟨h.own ht.1 hT, ht.2.mono fun _ _ _ hs => h.ins hs hS hB⟩
theorem ins_old {s : List S} (h : SpOn w A n s) (hb : Below w.heap.size w w') : InS w' w.heap.size A n s := (InS.of_in (B := w.heap.size) h (Nat.le_refl _)).below hb
end
def TellsB (B : Nat) (w : World) (t : Tm) (e : Ending) (w' : World) : Prop :=
  ∃ A n c, e = .returned (.agg #[.string t.name, .slice A n c, .bool t.none]) ∧ InS w' B A n t.set ∧ Below w.heap.size w w'
def MovesT (TP : World → Nat → Value → Tr → Prop) (TS : TypeId → Prop) (B : Nat) (w : World) (v : Value) (r : Nat × Tr) (e : Ending) (w' : World) : Prop :=
  e = .returned (.int .i64 (errT r.1)) ∧ TP w' B v r.2 ∧ Keeps TS B w w'
def TellsEnt (B : Nat) (w : World) (l : List Ent) (i : Int) (e : Ending) (w' : World) : Prop :=
  ∃ A n c nm z lv cz, e = .returned (.tuple #[.agg #[.string nm, .slice A n c, .bool z, .int .i64 lv, .int .i64 cz], .bool (decide (0 ≤ i ∧ i < l.length))]) ∧ Below w.heap.size w w' ∧
    ((0 ≤ i ∧ i < l.length) → ∃ q, l[i.toNat]? = some q ∧ nm = q.term.name ∧ z = q.term.none ∧ lv = (q.level : Int) ∧ cz = q.cause ∧ InS w' B A n q.term.set)
structure FewT (x : Tr) : Prop where
  small : SmallE x.l
  len : x.l.length ≤ 60
  level : x.level ≤ 60
structure ProgT (TP : World → Nat → Value → Tr → Prop) (TS : TypeId → Prop) : Prop where
  span : ¬ TS 56
  term : ¬ TS 38
  does : ¬ TS 40
  ptr : ∀ {w B v x}, TP w B v x → ∃ o, v = .pointer o
  size : ∀ {w B v x}, TP w B v x → B ≤ w.heap.size
  below : ∀ {w w' B v x}, TP w B v x → Below w.heap.size w w' → TP w' B v x
  far : ∀ {w w' B v x g cur T m}, TP w B v x → w.grownBy w' (some g) → w.heap[g]? = some (.cells cur T m) → ¬ TS T → T ≠ 56 → TP w' B v x
  new : ∀ w, Calls Tryz.prog 8 #[] w fun e w' => ∃ v, e = .returned v ∧ TP w' w.heap.size v ⟨[], 0⟩ ∧ Below w.heap.size w w'
  know : ∀ {w B v x} (nm : ByteArray), TP w B v x → FewT x → nm.size ≤ 1000000000 → Calls Tryz.prog 18 #[v, .string nm] w (TellsB B w (knowL x.l nm))
  knowAt : ∀ {w B v x} (k : Int) (nm : ByteArray), TP w B v x → FewT x → nm.size ≤ 1000000000 → Calls Tryz.prog 22 #[v, .int .i64 k, .string nm] w (TellsB B w (knowL (x.l.take k.toNat) nm))
  level : ∀ {w B v x}, TP w B v x → FewT x → Calls Tryz.prog 10 #[v] w fun e w' => e = .returned (.int .i64 (x.level : Int)) ∧ Below w.heap.size w w'
  len : ∀ {w B v x}, TP w B v x → FewT x → Calls Tryz.prog 11 #[v] w fun e w' => e = .returned (.int .i64 (x.l.length : Int)) ∧ Below w.heap.size w w'
  decide : ∀ {w B v x} (nm : ByteArray) (ver : Int), TP w B v x → FewT x → nm.size ≤ 1000000000 → Calls Tryz.prog 13 #[v, .string nm, .int .i64 ver] w (MovesT TP TS B w v (decideT x nm ver))
  derive : ∀ {w B v x} (t : Tm) (A : Option Addr) (n c : Nat) (cz : Int), TP w B v x → FewT x → InS w B A n t.set → n ≤ c → t.set.length ≤ 60 → t.name.size ≤ 1000000000 → Calls Tryz.prog 14 #[v, .agg #[.string t.name, .slice A n c, .bool t.none], .int .i64 cz] w (MovesT TP TS B w v (deriveT x t cz))
  back : ∀ {w B v x} (k : Int), TP w B v x → FewT x → Rise x → Calls Tryz.prog 12 #[v, .int .i64 k] w fun e w' => e = .returned (.tuple #[]) ∧ TP w' B v (backT x k) ∧ Keeps TS B w w'
  first : ∀ {w B v x} (c : List Tm) (A : Option Addr) (n k : Nat), TP w B v x → FewT x → TmOn w A n c → n ≤ 40 → (∀ t ∈ c, t.name.size ≤ 1000000000 ∧ isSet (-1) t.set = true ∧ t.set.length ≤ 60) → Calls Tryz.prog 15 #[v, .slice A n k] w fun e w' => e = .returned (.int .i64 (firstT x.l c)) ∧ Below w.heap.size w w'
structure ProgP (TP : World → Nat → Value → Tr → Prop) (TS : TypeId → Prop) : Prop extends ProgT TP TS where
  refX : ¬ TS 34
  refE : ¬ TS 87
  at_ : ∀ {w B v x} (i : Int), TP w B v x → FewT x → Calls Tryz.prog 52 #[v, .int .i64 i] w (TellsEnt B w x.l i)
  picks : ∀ {w B v x}, TP w B v x → FewT x → (∀ e ∈ x.l, e.cause < 0 → e.term.set ≠ [] ∧ e.term.name.size ≤ 1000000000) → Calls Tryz.prog 16 #[v] w (MakesP w (picksT x.l))
structure NilT : Prop where
  back : ∀ (k : Int) (w : World), Calls Tryz.prog 12 #[.pointer none, .int .i64 k] w fun e w' => e = .returned (.tuple #[]) ∧ Below w.heap.size w w'
  decide : ∀ (nm : ByteArray) (ver : Int) (w : World), Calls Tryz.prog 13 #[.pointer none, .string nm, .int .i64 ver] w fun e w' => e = .returned (.int .i64 1) ∧ Below w.heap.size w w'
  derive : ∀ (nm : ByteArray) (z : Bool) (cz : Int) (w : World), Calls Tryz.prog 14 #[.pointer none, .agg #[.string nm, .slice none 0 0, .bool z], .int .i64 cz] w fun e w' => e = .returned (.int .i64 1) ∧ Below w.heap.size w w'
  len : ∀ w : World, Calls Tryz.prog 11 #[.pointer none] w fun e w' => e = .returned (.int .i64 0) ∧ Below w.heap.size w w'
  level : ∀ w : World, Calls Tryz.prog 10 #[.pointer none] w fun e w' => e = .returned (.int .i64 0) ∧ Below w.heap.size w w'
  first : ∀ w : World, Calls Tryz.prog 15 #[.pointer none, .slice none 0 0] w fun e w' => e = .returned (.int .i64 (-1)) ∧ Below w.heap.size w w'
  picks : ∀ w : World, Calls Tryz.prog 16 #[.pointer none] w fun e w' => (∃ A c, e = .returned (.slice A 0 c)) ∧ Below w.heap.size w w'
  know : ∀ (nm : ByteArray) (w : World), nm.size ≤ 1000000000 → Calls Tryz.prog 18 #[.pointer none, .string nm] w (TellsB 0 w ⟨nm, allS, true⟩)
end Go.Proofs.YtllogmokadcfmaaGreat.Trail

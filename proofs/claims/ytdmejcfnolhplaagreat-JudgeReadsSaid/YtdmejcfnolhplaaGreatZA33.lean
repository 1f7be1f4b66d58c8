/-
  Some texts of this claim, one behind the other: ReachMath, IndexCells, IndexAt, ReachBfs. What each proves, and its condition, stands at its head.
-/
import Derived.Test.YtdmejcfnolhplaaGreatZA31
import Derived.Test.YtdmejcfnolhplaaGreatZA22
import Derived.Test.YtdmejcfnolhplaaGreatZA23
import Derived.Test.YtdmejcfnolhplaaGreatZA9
import Derived.Sort.KeysCollected
/-
  Plain mathematics of what may be needed: the names that needs reach by what is known; the document's way to them, again and again until nothing comes; the more is known, the more may be needed. No program.
-/
namespace Go.Proofs.YtdmejcfnolhplaaGreat.Reach
open Go.RowKit Go.Lib Go.Proofs.YtdmejcfnolhplaaGreat.Span Go.Proofs.YtdmejcfnolhplaaGreat.Need Go.Proofs.YtdmejcfnolhplaaGreat.Mani Go.Proofs.YtdmejcfnolhplaaGreat.Wire Go.Proofs.YtdmejcfnolhplaaGreat.Depot Go.Proofs.YtdmejcfnolhplaaGreat.Index
set_option linter.unusedVariables false
def asksX (X : List Kn) (a : ByteArray) : List ByteArray := allN (getX X a).1
inductive May (X : List Kn) (root : List Nd) : ByteArray → Prop
  | root {a : ByteArray} (h : a ∈ namesS root) : May X root a
  | ask {a b : ByteArray} (h : May X root a) (k : b ∈ asksX X a) : May X root b
def Reaches (X : List Kn) (root : List Nd) (L : List ByteArray) : Prop := RisesN L ∧ ∀ z, z ∈ L ↔ May X root z
def addsN (out acc : List ByteArray) : List ByteArray := acc.foldl (fun o x => addF x false o) out
theorem addsN_ok (acc : List ByteArray) {out : List ByteArray} (h : RisesN out) : RisesN (addsN out acc) ∧ ∀ z, z ∈ addsN out acc ↔ z ∈ out ∨ z ∈ acc := fold_ok acc out h
def stepN (X : List Kn) (out l : List ByteArray) : List ByteArray := addsN out (l.flatMap (asksX X))
theorem stepN_ok (X : List Kn) {out : List ByteArray} (h : RisesN out) (l : List ByteArray) : RisesN (stepN X out l) ∧ ∀ z, z ∈ stepN X out l ↔ z ∈ out ∨ ∃ a ∈ l, z ∈ asksX X a := by
  obtain ⟨h1, h2⟩ := addsN_ok (l.flatMap (asksX X)) h
  refine ⟨h1, fun z => ?_⟩
  unfold stepN
  rw [h2, List.mem_flatMap]
theorem sub_of_rises : ∀ {m l : List ByteArray}, RisesN l → RisesN m → (∀ z, z ∈ l → z ∈ m) → l.Sublist m
  | [], [], _, _, _ => List.Sublist.slnil
  | [], x :: l, _, _, h => by have := h x (by simp); cases this
  | y :: m, [], _, _, _ => List.nil_sublist _
  | y :: m, x :: l, hl, hm, h => by
    obtain ⟨a1, a2⟩ := List.pairwise_cons.1 hl
    obtain ⟨b1, b2⟩ := List.pairwise_cons.1 hm
    by_cases e : x = y
    · subst e
      refine (sub_of_rises a2 b2 fun z hz => ?_).cons_cons x
      rcases List.mem_cons.1 (h z (List.mem_cons_of_mem _ hz)) with g | g
      · have := a1 z hz
        rw [g, nlt_self] at this
        cases this
      · exact g
    · refine (sub_of_rises hl b2 fun z hz => ?_).cons y
      rcases List.mem_cons.1 (h z hz) with g | g
      · subst g
        rcases List.mem_cons.1 hz with k | k
        · exact absurd k.symm e
        · have h1 := a1 z k
          rcases List.mem_cons.1 (h x (by simp)) with k2 | k2
          · exact absurd k2 e
          · have h2 := b1 x k2
            have := nlt_trans h1 h2
            rw [nlt_self] at this
            cases this
      · exact g
theorem len_of_sub {l m : List ByteArray} (hl : RisesN l) (hm : RisesN m) (h : ∀ z, z ∈ l → z ∈ m) : l.length ≤ m.length := (sub_of_rises hl hm h).length_le
theorem same_of_len {l m : List ByteArray} (hl : RisesN l) (hm : RisesN m) (h : ∀ z, z ∈ l → z ∈ m) (hlen : m.length ≤ l.length) : l = m := (sub_of_rises hl hm h).eq_of_length_le hlen
structure Under (X : List Kn) (root : List Nd) (out : List ByteArray) : Prop where
  rises : RisesN out
  may : ∀ z, z ∈ out → May X root z
  has : ∀ z, z ∈ namesS root → z ∈ out
theorem Under.step {X : List Kn} {root : List Nd} {out : List ByteArray} (h : Under X root out) : Under X root (stepN X out out) := by
  obtain ⟨h1, h2⟩ := stepN_ok X h.rises out
  refine ⟨h1, fun z hz => ?_, fun z hz => (h2 z).2 (.inl (h.has z hz))⟩
  rcases (h2 z).1 hz with g | ⟨a, ha, g⟩
  · exact h.may z g
  · exact .ask (h.may a ha) g
theorem Under.done {X : List Kn} {root : List Nd} {out : List ByteArray} (h : Under X root out) (hl : (stepN X out out).length = out.length) : Reaches X root out := by
  obtain ⟨h1, h2⟩ := stepN_ok X h.rises out
  have e : out = stepN X out out := same_of_len h.rises h1 (fun z hz => (h2 z).2 (.inl hz)) (by omega)
  refine ⟨h.rises, fun z => ⟨h.may z, fun hz => ?_⟩⟩
  induction hz with
  | root hr => exact h.has _ hr
  | ask _ hk ih => rw [e]; exact (h2 _).2 (.inr ⟨_, ih, hk⟩)
def allX (X : List Kn) (root : List Nd) : List ByteArray := foldN (namesS root ++ X.flatMap fun q => allN q.2.1)
theorem may_all {X : List Kn} {root : List Nd} {z : ByteArray} (h : May X root z) : z ∈ allX X root := by
  unfold allX
  rw [foldN_mem, List.mem_append]
  induction h with
  | root hr => exact .inl hr
  | @ask a b _ hk _ =>
    refine .inr (List.mem_flatMap.2 ?_)
    unfold asksX getX at hk
    cases g : atX X a with
    | none => rw [g] at hk; cases hk
    | some k => rw [g] at hk; exact ⟨_, atX_in g, hk⟩
theorem Under.len {X : List Kn} {root : List Nd} {out : List ByteArray} (h : Under X root out) : out.length ≤ (allX X root).length := len_of_sub h.rises (foldN_rises _) fun z hz => may_all (h.may z hz)
end Go.Proofs.YtdmejcfnolhplaaGreat.Reach
/-
  An index in memory: the program's, a struct of a map from names to values of an interface; the document's, a struct of a slice of known names. No condition.
-/
namespace Go.Proofs.YtdmejcfnolhplaaGreat.Index
open Go Go.RowKit Go.Lib Go.Proofs.YtdmejcfnolhplaaGreat.Span Go.Proofs.YtdmejcfnolhplaaGreat.Need Go.Proofs.YtdmejcfnolhplaaGreat.Mani Go.Proofs.YtdmejcfnolhplaaGreat.Wire Go.Proofs.YtdmejcfnolhplaaGreat.Depot Go.Proofs.YtdmejcfnolhplaaGreat.MapV
set_option linter.unusedVariables false
def FineX (l : List Kn) : Prop := ∀ q ∈ l, FineR q.2.1
theorem FineX.nil : FineX [] := fun q hq => by cases hq
theorem FineX.put {l : List Kn} (h : FineX l) (nm : ByteArray) (b : List UInt8) : FineX (putX l nm b) := by
  unfold putX
  split
  · intro q hq
    rcases (insX_mem _ _).1 hq with rfl | hq
    · exact relE_fine nm b
    · exact h q hq
  · exact h
theorem FineX.puts {l : List Kn} (h : FineX l) (es : List En) : FineX (putsX l es) := by
  induction es generalizing l with
  | nil => exact h
  | cons e t ih => exact ih (h.put e.1 e.2)
theorem FineX.get {l : List Kn} (h : FineX l) (nm : ByteArray) : FineR (getX l nm).1 := by
  unfold getX
  cases g : atX l nm with
  | none => exact ⟨by simp, fun q hq => by cases hq⟩
  | some k => exact h _ (atX_in g)
/-! The program's. -/
def Kept (w : World) (v : Value) (nm : ByteArray) (k : Kv) : Prop :=
  (k.2 = true ∧ ∃ A n c B rs, v = .iface 126 (.agg #[.string nm, .slice A n c]) ∧ Rls w B (.slice A n c) n rs k.1) ∨ (k = ([], false) ∧ v = .iface 125 (.agg #[]))
theorem farT_none (w : World) (T : TypeId) : FarT w T none := fun b cur m h e => by cases e
section
variable {w w' : World} {v : Value} {nm : ByteArray} {k : Kv} {row : Option Nat}
theorem Kept.far (h : Kept w v nm k) (h1 : FarT w 67 row) (h2 : FarT w 60 row) (h3 : FarT w 136 row) (hg : w.grownBy w' row) : Kept w' v nm k := by
  rcases h with ⟨e, A, n, c, B, rs, hv, hr⟩ | h
  · exact .inl ⟨e, A, n, c, B, rs, hv, hr.far h1 h2 h3 hg⟩
  · exact .inr h
end
def nvs (val : ByteArray → Value) (l : List Kn) : List Nv := l.map fun q => (q.1, val q.1)
theorem nvs_length (val : ByteArray → Value) (l : List Kn) : (nvs val l).length = l.length := by simp [nvs]
theorem lookA_nvs (val : ByteArray → Value) (l : List Kn) (nm : ByteArray) : lookA (nvs val l) nm = (atX l nm).map fun _ => val nm := by
  induction l with
  | nil => rfl
  | cons q t ih =>
    show lookA ((q.1, val q.1) :: nvs val t) nm = _
    rw [lookA, atX]
    by_cases e : q.1 = nm
    · rw [if_pos e, if_pos e]
      simp [e]
    · rw [if_neg e, if_neg e]; exact ih
def IdxM (w : World) (b : Nat) (l : List Kn) : Prop := ∃ val, OwnV w b l.length (nvs val l) ∧ ∀ q ∈ l, Kept w (val q.1) q.1 q.2
def Idx (w : World) (g : Nat) (mo : Option Nat) (l : List Kn) : Prop := Blk w g 93 #[.map mo] ∧ ((mo = none ∧ l = []) ∨ ∃ b, mo = some b ∧ IdxM w b l)
def rowX (g : Nat) (mo : Option Nat) : Nat := mo.getD g
theorem farT_map {w : World} {b n : Nat} {l : List Nv} (T : TypeId) (h : OwnV w b n l) : FarT w T (some b) := by
  obtain ⟨D, ⟨es, clock, hb, _⟩, _⟩ := h
  intro b' cur m h e
  injection e with e
  subst e
  rw [hb] at h
  cases h
section
variable {w w' : World} {g g2 b : Nat} {mo mo2 : Option Nat} {l l2 : List Kn} {row : Option Nat}
theorem IdxM.far (h : IdxM w b l) (hne : some b ≠ row) (h1 : FarT w 67 row) (h2 : FarT w 60 row) (h3 : FarT w 136 row) (hg : w.grownBy w' row) : IdxM w' b l := by
  obtain ⟨val, ho, hk⟩ := h
  exact ⟨val, ho.kept hg hne, fun q hq => (hk q hq).far h1 h2 h3 hg⟩
theorem Idx.far (h : Idx w g mo l) (hne : some g ≠ row) (hm : ∀ b, mo = some b → some b ≠ row) (h1 : FarT w 67 row) (h2 : FarT w 60 row) (h3 : FarT w 136 row) (hg : w.grownBy w' row) : Idx w' g mo l := by
  obtain ⟨hb, h⟩ := h
  refine ⟨hb.grown hg hne, ?_⟩
  rcases h with h | ⟨b, e, h⟩
  · exact .inl h
  · exact .inr ⟨b, e, h.far (hm b e) h1 h2 h3 hg⟩
theorem Idx.below (h : Idx w g mo l) (hb : Below w.heap.size w w') : Idx w' g mo l :=
  h.far (by simp) (by simp) (farT_none _ _) (farT_none _ _) (farT_none _ _) (only_of_below hb none)
theorem Idx.lt (h : Idx w g mo l) : g < w.heap.size := h.1.lt
theorem Idx.mlt (h : Idx w g mo l) (e : mo = some b) : b < w.heap.size := by
  rcases h.2 with ⟨e2, _⟩ | ⟨b2, e2, val, ho, _⟩
  · rw [e] at e2; cases e2
  · rw [e] at e2
    injection e2 with e2
    subst e2
    exact ho.lt
theorem Idx.rowlt (h : Idx w g mo l) : rowX g mo < w.heap.size := by
  cases e : mo with
  | none => exact h.lt
  | some b => exact h.mlt e
theorem Idx.farT (h : Idx w g mo l) {T : TypeId} (hT : T ≠ 93) : FarT w T (some (rowX g mo)) := by
  obtain ⟨hb, h⟩ := h
  rcases h with ⟨rfl, _⟩ | ⟨b, rfl, val, ho, _⟩
  · exact farT_blk hb hT
  · exact farT_map T ho
theorem Idx.apart (h : Idx w g mo l) (h2 : Idx w g2 mo2 l2) (e : mo2 = some b) : g ≠ b := by
  intro e1
  subst e1
  rcases h2.2 with ⟨e2, _⟩ | ⟨b2, e2, val, ho, _⟩
  · rw [e] at e2; cases e2
  · rw [e] at e2
    injection e2 with e2
    subst e2
    exact farT_map 93 ho _ _ _ h.1 rfl
end
/-! The document's. -/
theorem info_known : (Tryz.prog.info? 104).map (fun i => (i.zero, i.size, i.bytes)) = some (some (.agg #[.string ByteArray.empty, .slice none 0 0, .bool false]), 3, 48) := by kernel_rfl
abbrev Rk := ByteArray × Value × Bool
def kcs : List Rk → List Value
  | [] => []
  | r :: t => .string r.1 :: r.2.1 :: .bool r.2.2 :: kcs t
theorem kcs_length (l : List Rk) : (kcs l).length = l.length * 3 := by
  induction l with
  | nil => rfl
  | cons s t ih => simp [kcs, ih]; omega
theorem kcs_append (l m : List Rk) : kcs (l ++ m) = kcs l ++ kcs m := by
  induction l with
  | nil => rfl
  | cons s t ih => simp [kcs, ih]
theorem kcs_one (l : List Rk) (h : ∀ r ∈ l, ∃ A n c, r.2.1 = .slice A n c) : ∀ u ∈ kcs l, u.oneCell' = true := by
  induction l with
  | nil => intro u hu; cases hu
  | cons s t ih =>
    intro u hu
    simp only [kcs, List.mem_cons] at hu
    rcases hu with rfl | rfl | rfl | hu
    · rfl
    · obtain ⟨A, n, c, e⟩ := h s (by simp)
      rw [e]; rfl
    · rfl
    · exact ih (fun r hr => h r (by simp [hr])) u hu
theorem kcs_get (l : List Rk) : ∀ (i : Nat) (r : Rk), l[i]? = some r → (kcs l)[i * 3]? = some (.string r.1) ∧ (kcs l)[i * 3 + 1]? = some r.2.1 ∧ (kcs l)[i * 3 + 2]? = some (.bool r.2.2) := by
  induction l with
  | nil => intro i s h; simp at h
  | cons x t ih =>
    intro i s h
    cases i with
    | zero => simp at h; subst h; exact ⟨rfl, rfl, rfl⟩
    | succ i =>
      rw [List.getElem?_cons_succ] at h
      have := ih i s h
      rw [show (i + 1) * 3 = i * 3 + 1 + 1 + 1 by omega, show i * 3 + 1 + 1 + 1 + 1 = (i * 3 + 1) + 1 + 1 + 1 by omega, show i * 3 + 1 + 1 + 1 + 2 = (i * 3 + 2) + 1 + 1 + 1 by omega]
      exact this
def KFit (w : World) (r : Rk) (q : Kn) : Prop := r.1 = q.1 ∧ r.2.2 = q.2.2 ∧ ∃ A n c B rs, r.2.1 = .slice A n c ∧ Rls w B (.slice A n c) n rs q.2.1
theorem KFit.far {w w' : World} {row : Option Nat} {r : Rk} {q : Kn} (h : KFit w r q) (h1 : FarT w 67 row) (h2 : FarT w 60 row) (h3 : FarT w 136 row) (hg : w.grownBy w' row) : KFit w' r q := by
  obtain ⟨e1, e2, A, n, c, B, rs, e3, hr⟩ := h
  exact ⟨e1, e2, A, n, c, B, rs, e3, hr.far h1 h2 h3 hg⟩
theorem KFit.below {w w' : World} {r : Rk} {q : Kn} (h : KFit w r q) (hb : Below w.heap.size w w') : KFit w' r q := h.far (farT_none _ _) (farT_none _ _) (farT_none _ _) (only_of_below hb none)
def AllK (w : World) (rs : List Rk) (l : List Kn) : Prop := rs.length = l.length ∧ ∀ (i : Nat) (r : Rk) (q : Kn), rs[i]? = some r → l[i]? = some q → KFit w r q
section
variable {w w' w1 : World} {B n m : Nat} {v v1 : Value} {rs rs2 : List Rk} {l l2 : List Kn} {A : Option Addr} {row : Option Nat}
theorem AllK.mono (h : AllK w rs l) (hk : ∀ r q, KFit w r q → KFit w' r q) : AllK w' rs l := ⟨h.1, fun i r q hr hq => hk _ _ (h.2 i r q hr hq)⟩
theorem AllK.append (h : AllK w rs l) (h2 : AllK w rs2 l2) : AllK w (rs ++ rs2) (l ++ l2) :=
  ⟨by simp [h.1, h2.1], fun i r q hr hq => by
    rcases Nat.lt_or_ge i rs.length with hi | hi
    · rw [List.getElem?_append_left hi] at hr
      rw [List.getElem?_append_left (by rw [← h.1]; exact hi)] at hq
      exact h.2 i r q hr hq
    · rw [List.getElem?_append_right hi] at hr
      rw [List.getElem?_append_right (by rw [← h.1]; exact hi), ← h.1] at hq
      exact h2.2 _ r q hr hq⟩
theorem AllK.one {r : Rk} {q : Kn} (h : KFit w r q) : AllK w [r] [q] :=
  ⟨rfl, fun i r q hr hq => by
    rcases i with _ | i
    · simp at hr hq
      subst hr hq
      exact h
    · simp at hr⟩
def InK (w : World) (A : Option Addr) (n : Nat) (l : List Kn) : Prop :=
  ∃ rs, Reads w w.heap.size 3 A n (kcs rs) ∧ AllK w rs l ∧ ∀ ad, A = some ad → 0 < n → ∃ cur m, w.heap[ad.block]? = some (.cells cur 104 m)
theorem InK.len (h : InK w A n l) : l.length = n := by
  obtain ⟨rs, h1, h2, _⟩ := h
  have := h1.1
  rw [kcs_length] at this
  have := h2.1
  omega
theorem InK.at_ {k : Nat} (h : InK w A n l) (hk : k < n) :
    ∃ ad q A' n' c' B' rs', A = some ad ∧ ad.block < w.heap.size ∧ l[k]? = some q ∧ Rls w B' (.slice A' n' c') n' rs' q.2.1 ∧ w.cell? (ad.add (k * 3)) = some (.string q.1) ∧ w.cell? ⟨(ad.add (k * 3)).block, (ad.add (k * 3)).off + 1, none⟩ = some (.slice A' n' c') ∧
      w.cell? ⟨(ad.add (k * 3)).block, (ad.add (k * 3)).off + 2, none⟩ = some (.bool q.2.2) := by
  have hl := h.len
  obtain ⟨rs, h1, h2, _⟩ := h
  obtain ⟨ad, hA, hb, hc⟩ := h1.2 (by omega)
  have hr : k < rs.length := by rw [h2.1]; omega
  obtain ⟨e1, e2, A', n', c', B', rs', e3, hs⟩ := h2.2 k rs[k] (l[k]'(by omega)) (by simp) (by simp)
  obtain ⟨g1, g2, g3⟩ := kcs_get rs k rs[k] (by simp)
  have two : ∀ i : Nat, (ad.add i).add 2 = ⟨(ad.add i).block, (ad.add i).off + 2, none⟩ := fun i => by
    show (if (2 : Nat) = 0 then _ else _) = _
    rw [if_neg (by omega)]
  refine ⟨ad, l[k]'(by omega), A', n', c', B', rs', hA, hb, by simp, hs, ?_, ?_, ?_⟩
  · rw [← e1]; exact hc _ _ g1
  · rw [← add_field, ← e3]; exact hc _ _ g2
  · rw [← two, add_of_add, ← e2]; exact hc _ _ g3
theorem InK.far (h : InK w A n l) (h1 : FarT w 67 row) (h2 : FarT w 60 row) (h3 : FarT w 136 row) (h4 : FarT w 104 row) (hg : w.grownBy w' row) : InK w' A n l := by
  obtain ⟨rs, g1, g2, g3⟩ := h
  have blk : ∀ ad, A = some ad → 0 < n → w'.heap[ad.block]? = w.heap[ad.block]? := fun ad hA hn => by
    obtain ⟨ad', hA', hlt, _⟩ := g1.2 hn
    rw [hA] at hA'
    injection hA' with hA'
    subst hA'
    obtain ⟨cur, k, h5⟩ := g3 ad hA hn
    exact hg.block _ hlt (h4 _ _ _ h5)
  refine ⟨rs, ⟨g1.1, fun hn => ?_⟩, g2.mono fun _ _ hs => hs.far h1 h2 h3 hg, fun ad hA hn => ?_⟩
  · obtain ⟨ad, hA, hlt, hc⟩ := g1.2 hn
    exact ⟨ad, hA, Nat.lt_of_lt_of_le hlt hg.size, fun j u hu => (World.cell?_of_block (by rw [block_of_add]; exact blk ad hA hn)).trans (hc j u hu)⟩
  · obtain ⟨cur, k, h5⟩ := g3 ad hA hn
    exact ⟨cur, k, (blk ad hA hn).trans h5⟩
theorem InK.below (h : InK w A n l) (hb : Below w.heap.size w w') : InK w' A n l :=
  h.far (farT_none _ _) (farT_none _ _) (farT_none _ _) (farT_none _ _) (only_of_below hb none)
theorem InK.nil (w : World) : InK w none 0 [] := ⟨[], ⟨rfl, fun h => absurd h (by omega)⟩, ⟨rfl, fun i r q hr _ => by simp at hr⟩, fun ad hA => by cases hA⟩
def Kns (w : World) (B : Nat) (v : Value) (n : Nat) (rs : List Rk) (l : List Kn) : Prop := w.ownsRow B 104 3 v n (kcs rs) ∧ AllK w rs l
theorem Kns.nil_ (w : World) (B : Nat) : Kns w B (.slice none 0 0) 0 [] [] := ⟨World.ownsRow_nil w B _ 3, rfl, fun i r q hr _ => by simp at hr⟩
theorem Kns.below (h : Kns w B v n rs l) (hb : Below w.heap.size w w') : Kns w' B v n rs l := ⟨own_below h.1 hb, h.2.mono fun _ _ hs => hs.below hb⟩
theorem Kns.cat (h : Kns w B v n rs l) (h2 : AllK w rs2 l2) (h1 : w1.ownsRow B 104 3 v1 m (kcs rs ++ kcs rs2)) (hg : w.grownBy w1 v.ownBlock) : Kns w1 B v1 m (rs ++ rs2) (l ++ l2) :=
  ⟨by rw [kcs_append]; exact h1, (h.2.append h2).mono fun _ _ hs => hs.far (farT_own h.1 (by decide)) (farT_own h.1 (by decide)) (farT_own h.1 (by decide)) hg⟩
theorem Kns.told (h : Kns w B v n rs l) : ∃ A c, v = .slice A n c ∧ n ≤ c ∧ InK w A n l := by
  obtain ⟨A, c, rfl, hc, _, hr⟩ := own_form h.1
  refine ⟨A, c, rfl, hc, rs, hr, h.2, fun ad hA hn => ?_⟩
  rcases h.1.2 with ⟨e, _⟩ | ⟨g, cap, cur, e, hB, hgg, _⟩
  · injection e with e1 e2 e3
    omega
  · injection e with e1 e2 e3
    rw [hA] at e1
    injection e1 with e1
    subst e1
    exact ⟨cur, _, hgg⟩
theorem reads_known (w : World) (nm : ByteArray) (A : Option Addr) (n c : Nat) (b : Bool) (T : TypeId) (g : Nat) (hg : g = w.heap.size) :
    Reads (w.alloc (.cells #[.string nm, .slice A n c, .bool b] T)) (w.heap.size + 1) 3 (some ⟨g, 0, none⟩) 1 (kcs [(nm, .slice A n c, b)]) := by
  subst hg
  have h := Reads.newL w T #[.string nm, .slice A n c, .bool b]
  exact ⟨rfl, fun _ => h.2 (by simp)⟩
theorem one_known (nm : ByteArray) (A : Option Addr) (n c : Nat) (b : Bool) : ∀ u ∈ kcs [(nm, .slice A n c, b)], u.oneCell' = true := kcs_one _ fun r hr => by
  rw [List.mem_singleton.1 hr]
  exact ⟨A, n, c, rfl⟩
end
def Doc (w : World) (g : Nat) (l : List Kn) : Prop := ∃ A n c, Blk w g 33 #[.slice A n c] ∧ InK w A n l
end Go.Proofs.YtdmejcfnolhplaaGreat.Index
/-
  Contracts of the program's New, of, Has and Len, at an index and at nil. Condition: a name of at most 1,000,000,000 bytes.
-/
namespace Go.Proofs.YtdmejcfnolhplaaGreat.Index
open Go Go.RowKit Go.Lib Go.Proofs.YtdmejcfnolhplaaGreat.Span Go.Proofs.YtdmejcfnolhplaaGreat.Need Go.Proofs.YtdmejcfnolhplaaGreat.Mani Go.Proofs.YtdmejcfnolhplaaGreat.Wire Go.Proofs.YtdmejcfnolhplaaGreat.Depot Go.Proofs.YtdmejcfnolhplaaGreat.MapV
set_option linter.unusedVariables false
def Found (w : World) (v : Value) (nm : ByteArray) (o : Option Kv) : Prop := (o = none ∧ v = .nilIface) ∨ ∃ k, o = some k ∧ Kept w v nm k
theorem zero_known (w : World) : (zeroValue 95).run Tryz.prog w = .ok .nilIface w := by kernel_rfl
theorem look_any {w : World} {b : Nat} {l : List Kn} (h : IdxM w b l) (nm : ByteArray) (hs : nm.size ≤ maxLen) :
    ∃ v, (Instr.lookup 91 (.map (some b)) (.string nm) false).run Tryz.prog w = .ok v w ∧ Found w v nm (atX l nm) := by
  obtain ⟨val, ⟨D, ho, ht⟩, hk⟩ := h
  obtain ⟨v, ps, hrun, hv⟩ := ho.lookup keyed Tryz.underlying91 (zero_known w) (zd := .held .nilIface) (zp := []) rfl (key_ofS nm hs)
  have e := lookA_at ht hv
  refine ⟨v, hrun, ?_⟩
  rw [lookA_nvs] at e
  cases g : atX l nm with
  | none =>
    rw [g] at e
    exact .inl ⟨rfl, e⟩
  | some k =>
    rw [g] at e
    have e2 : v = val nm := e
    exact .inr ⟨k, rfl, by rw [e2]; exact hk _ (atX_in g)⟩
theorem look_none (w : World) (nm : ByteArray) (hs : nm.size ≤ maxLen) : (Instr.lookup 91 (.map none) (.string nm) false).run Tryz.prog w = .ok .nilIface w :=
  Maps.look_nil false keyed Tryz.underlying91 (zero_known w) (key_ofS nm hs)
set_option maxHeartbeats 2000000 in
set_option maxRecDepth 100000 in
theorem new_any (w : World) : Calls Tryz.prog 26 #[] w fun e w' => e = .returned (.pointer (some ⟨w.heap.size, 0, none⟩)) ∧ Idx w' w.heap.size none [] ∧ Below w.heap.size w w' := by
  go_enter Tryz.func26, Tryz.ntmps26
  go_wp2
  go_ret
  exact ⟨rfl, ⟨Blk.new _ _ _, .inl ⟨rfl, rfl⟩⟩, (Below.refl _ _).alloc (Nat.le_refl _) _⟩
set_option maxHeartbeats 2000000 in
set_option maxRecDepth 100000 in
theorem of_any (g : Nat) (mo : Option Nat) (l : List Kn) (nm : ByteArray) (w : World) (h : Idx w g mo l) (hnm : nm.size ≤ 1000000000) :
    Calls Tryz.prog 69 #[.pointer (some ⟨g, 0, none⟩), .string nm] w fun e w' => ∃ v, e = .returned v ∧ w = w' ∧ Found w v nm (atX l nm) := by
  have hs : nm.size ≤ maxLen := by unfold maxLen; omega
  obtain ⟨v, hrun, hf⟩ : ∃ v, (Instr.lookup 91 (.map mo) (.string nm) false).run Tryz.prog w = .ok v w ∧ Found w v nm (atX l nm) := by
    rcases h.2 with ⟨rfl, rfl⟩ | ⟨b, rfl, hm⟩
    · exact ⟨_, look_none w nm hs, .inl ⟨rfl, rfl⟩⟩
    · exact look_any hm nm hs
  have hc := (h.1.cell 0).trans (show (#[Value.map mo] : Array Value)[0]? = some (.map mo) from rfl)
  go_enter Tryz.func69, Tryz.ntmps69
  go_wp2
  go_ret
  exact ⟨v, rfl, rfl, hf⟩
set_option maxHeartbeats 2000000 in
set_option maxRecDepth 100000 in
theorem of_nil (nm : ByteArray) (w : World) : Calls Tryz.prog 69 #[.pointer none, .string nm] w fun e w' => e = .returned .nilIface ∧ w = w' := by
  go_enter Tryz.func69, Tryz.ntmps69
  go_wp2
  go_ret
  exact ⟨rfl, rfl⟩
theorem neq_iface (t : TypeId) (v : Value) (w : World) : (binOp .neq 95 (.iface t v) .nilIface).run Tryz.prog w = .ok (.bool true) w := by
  have h : ∀ d : Nat, (Op.equalIn (d + 1) 95 (.iface t v) .nilIface).run Tryz.prog w = .ok false w := fun d => by simp [Op.equalIn, run_underlying Tryz.underlying95]
  simp only [binOp]
  simp [Op.equal, Op.maxDepth, h 9999]
theorem neq_nil (w : World) : (binOp .neq 95 .nilIface .nilIface).run Tryz.prog w = .ok (.bool false) w := by
  have h : ∀ d : Nat, (Op.equalIn (d + 1) 95 .nilIface .nilIface).run Tryz.prog w = .ok true w := fun d => by simp [Op.equalIn, run_underlying Tryz.underlying95]
  simp only [binOp]
  simp [Op.equal, Op.maxDepth, h 9999]
set_option maxHeartbeats 2000000 in
set_option maxRecDepth 100000 in
theorem has_any (g : Nat) (mo : Option Nat) (l : List Kn) (nm : ByteArray) (w : World) (h : Idx w g mo l) (hnm : nm.size ≤ 1000000000) :
    Calls Tryz.prog 43 #[.pointer (some ⟨g, 0, none⟩), .string nm] w fun e w' => e = .returned (.bool (atX l nm).isSome) ∧ w = w' := by
  have HO := hide (of_any g mo l nm w h hnm)
  have h1 := neq_iface
  have h2 := neq_nil
  clear h hnm
  generalize atX l nm = o at *
  go_enter Tryz.func43, Tryz.ntmps43
  go_upto_region 1 with fail
  go_wp2_with (first
    | (go_at_call 69
       refine HO.out.mono ?_
       rintro e w1 ⟨v, rfl, rfl, hf⟩
       rcases hf with ⟨rfl, rfl⟩ | ⟨k, rfl, ⟨_, A, n, c, B, rs, rfl, _⟩ | ⟨_, rfl⟩⟩))
  all_goals (try go_wp2)
  all_goals (go_ret; exact ⟨rfl, rfl⟩)
set_option maxHeartbeats 2000000 in
set_option maxRecDepth 100000 in
theorem has_nil (nm : ByteArray) (w : World) : Calls Tryz.prog 43 #[.pointer none, .string nm] w fun e w' => e = .returned (.bool false) ∧ w = w' := by
  have HO := hide (of_nil nm w)
  have h2 := neq_nil
  go_enter Tryz.func43, Tryz.ntmps43
  go_wp2_with (first
    | (go_at_call 69
       refine HO.out.mono ?_
       rintro e w1 ⟨rfl, rfl⟩))
  go_ret
  exact ⟨rfl, rfl⟩
end Go.Proofs.YtdmejcfnolhplaaGreat.Index
/-
  Plain mathematics of a search through names, one by one, in the order in which they are found: what is found is what may be needed; sorted, it is the list that rises. No program.
-/
namespace Go.Proofs.YtdmejcfnolhplaaGreat.Reach
open Go Go.RowKit Go.Lib Go.Sort Go.Proofs.YtdmejcfnolhplaaGreat.Span Go.Proofs.YtdmejcfnolhplaaGreat.Need Go.Proofs.YtdmejcfnolhplaaGreat.Mani Go.Proofs.YtdmejcfnolhplaaGreat.Wire Go.Proofs.YtdmejcfnolhplaaGreat.Depot Go.Proofs.YtdmejcfnolhplaaGreat.Index
set_option linter.unusedVariables false
instance memN (x : ByteArray) (l : List ByteArray) : Decidable (x ∈ l) := decidable_of_iff (l.any (fun y => decide (y = x)) = true) (by simp)
def newF (acc l : List ByteArray) : List ByteArray := l.foldl (fun o x => if x ∈ acc ++ o then o else o ++ [x]) []
theorem nodup_snoc {l : List ByteArray} {x : ByteArray} (h : l.Nodup) (hx : x ∉ l) : (l ++ [x]).Nodup := by
  unfold List.Nodup at *
  refine List.pairwise_append.2 ⟨h, List.pairwise_singleton _ _, fun a ha b hb => ?_⟩
  rw [List.mem_singleton.1 hb]
  exact fun e => hx (e ▸ ha)
theorem newF_ok {acc : List ByteArray} (ha : acc.Nodup) (l : List ByteArray) : ∀ (o : List ByteArray), (acc ++ o).Nodup →
    (acc ++ l.foldl (fun o x => if x ∈ acc ++ o then o else o ++ [x]) o).Nodup ∧ ∀ z, z ∈ acc ++ l.foldl (fun o x => if x ∈ acc ++ o then o else o ++ [x]) o ↔ z ∈ acc ++ o ∨ z ∈ l := by
  induction l with
  | nil => intro o h; exact ⟨h, fun z => by simp⟩
  | cons x t ih =>
    intro o h
    rw [List.foldl_cons]
    by_cases e : x ∈ acc ++ o
    · rw [if_pos e]
      obtain ⟨h1, h2⟩ := ih o h
      refine ⟨h1, fun z => ?_⟩
      rw [h2, List.mem_cons]
      constructor
      · rintro (g | g)
        · exact .inl g
        · exact .inr (.inr g)
      · rintro (g | g | g)
        · exact .inl g
        · exact .inl (g ▸ e)
        · exact .inr g
    · rw [if_neg e]
      obtain ⟨h1, h2⟩ := ih (o ++ [x]) (by rw [← List.append_assoc]; exact nodup_snoc h e)
      refine ⟨h1, fun z => ?_⟩
      rw [h2, ← List.append_assoc, List.mem_append (s := acc ++ o), List.mem_singleton, List.mem_cons, or_assoc]
theorem newF_nodup {acc : List ByteArray} (ha : acc.Nodup) (l : List ByteArray) : (acc ++ newF acc l).Nodup := (newF_ok ha l [] (by simpa using ha)).1
theorem newF_mem {acc : List ByteArray} (ha : acc.Nodup) (l : List ByteArray) {z : ByteArray} : z ∈ acc ++ newF acc l ↔ z ∈ acc ∨ z ∈ l := by
  have := (newF_ok ha l [] (by simpa using ha)).2 z
  simpa [newF] using this
theorem addF_perm {x : ByteArray} {l : List ByteArray} (h : x ∉ l) : (addF x false l).Perm (x :: l) := by
  induction l with
  | nil => exact List.Perm.refl _
  | cons y t ih =>
    obtain ⟨h1, h2⟩ := not_or.1 (fun g => h (List.mem_cons.2 g))
    rcases tri x y with ⟨g, _⟩ | ⟨_, _, g⟩ | ⟨_, g, _⟩
    · rw [addF_lt g, addF_true]; exact List.Perm.refl _
    · exact absurd (of_decide_eq_true (by rw [← eq_names]; exact g)) h1
    · rw [addF_gt g]
      exact ((ih h2).cons y).trans (List.Perm.swap x y t)
theorem fold_perm : ∀ (l o : List ByteArray), l.Nodup → (∀ x ∈ l, x ∉ o) → (l.foldl (fun o x => addF x false o) o).Perm (l ++ o)
  | [], o, _, _ => List.Perm.refl _
  | x :: t, o, hl, ho => by
    obtain ⟨h1, h2⟩ := List.pairwise_cons.1 hl
    rw [List.foldl_cons]
    have hx : x ∉ o := ho x (by simp)
    refine (fold_perm t (addF x false o) h2 fun y hy hm => ?_).trans ?_
    · rcases (addF_mem x o).1 hm with g | g
      · exact h1 y hy g.symm
      · exact ho y (by simp [hy]) g
    · refine ((addF_perm hx).append_left t).trans ?_
      exact List.perm_middle
theorem foldN_perm {l : List ByteArray} (h : l.Nodup) : (foldN l).Perm l := by
  have := fold_perm l [] h (fun x _ => by simp)
  simpa [foldN] using this
structure Bfs (X : List Kn) (root : List Nd) (L : List ByteArray) (d : Nat) : Prop where
  nodup : L.Nodup
  may : ∀ z, z ∈ L → May X root z
  has : ∀ z, z ∈ namesS root → z ∈ L
  done : ∀ (i : Nat) (a : ByteArray), i < d → L[i]? = some a → ∀ z, z ∈ asksX X a → z ∈ L
def asksF (X : List Kn) (a : ByteArray) : List ByteArray := foldN (asksX X a)
theorem Bfs.step {X : List Kn} {root : List Nd} {L : List ByteArray} {d : Nat} {a : ByteArray} (h : Bfs X root L d) (ha : L[d]? = some a) : Bfs X root (L ++ newF L (asksF X a)) (d + 1) := by
  have hm := fun z => newF_mem (z := z) h.nodup (asksF X a)
  have hd : d < L.length := (List.getElem?_eq_some_iff.1 ha).1
  refine ⟨newF_nodup h.nodup _, fun z hz => ?_, fun z hz => (hm z).2 (.inl (h.has z hz)), fun i b hi hb z hz => ?_⟩
  · rcases (hm z).1 hz with g | g
    · exact h.may z g
    · exact .ask (h.may a (List.mem_of_getElem? ha)) ((foldN_mem _).1 g)
  · rw [List.getElem?_append_left (by omega)] at hb
    rcases Nat.lt_or_ge i d with g | g
    · exact (hm z).2 (.inl (h.done i b g hb z hz))
    · have e : i = d := by omega
      subst e
      rw [ha] at hb
      injection hb with hb
      subst hb
      exact (hm z).2 (.inr ((foldN_mem _).2 hz))
theorem Bfs.len {X : List Kn} {root : List Nd} {L : List ByteArray} {d : Nat} (h : Bfs X root L d) : L.length ≤ (allX X root).length := by
  have h1 := (foldN_perm h.nodup).length_eq
  have h2 := len_of_sub (foldN_rises L) (foldN_rises _) (m := allX X root) fun z hz => may_all (h.may z ((foldN_mem L).1 hz))
  omega
end Go.Proofs.YtdmejcfnolhplaaGreat.Reach

/-
  Some texts of this claim, one behind the other: IndexCells. What each proves, and its condition, stands at its head.
-/
import Derived.Test.YtaiinbkfllafiaaZ18
import Derived.Test.YtaiinbkfllafiaaZ21
import Derived.Test.YtaiinbkfllafiaaZ23
/-
  An index in memory: the program's, a struct of a map from names to values of an interface; the document's, a struct of a slice of known names. No condition.
-/
namespace Go.Proofs.Ytaiinbkfllafiaa.Index
open Go Go.RowKit Go.Lib Go.Proofs.Ytaiinbkfllafiaa.Span Go.Proofs.Ytaiinbkfllafiaa.Need Go.Proofs.Ytaiinbkfllafiaa.Mani Go.Proofs.Ytaiinbkfllafiaa.Wire Go.Proofs.Ytaiinbkfllafiaa.Depot Go.Proofs.Ytaiinbkfllafiaa.MapV
set_option linter.unusedVariables false
/-- Releases that are looked at. -/
def FineX (l : List Kn) : Prop := ∀ q ∈ l, FineR q.2.1
theorem FineX.nil : FineX [] := fun q hq => by cases hq
theorem FineX.put {l : List Kn} (h : FineX l) (nm : ByteArray) (b : List UInt8) : FineX (putX l nm b) := by
  unfold putX
  split
  · intro q hq
    rcases (insX_mem _ _).1 hq with rfl | hq
    · exact relE_fine nm b
    · exact h q hq
  · exact h
theorem FineX.puts {l : List Kn} (h : FineX l) (es : List En) : FineX (putsX l es) := by
  induction es generalizing l with
  | nil => exact h
  | cons e t ih => exact ih (h.put e.1 e.2)
theorem FineX.get {l : List Kn} (h : FineX l) (nm : ByteArray) : FineR (getX l nm).1 := by
  unfold getX
  cases g : atX l nm with
  | none => exact ⟨by simp, fun q hq => by cases hq⟩
  | some k => exact h _ (atX_in g)
/-! The program's. -/
/-- What is kept of a name, as it lies. -/
def Kept (w : World) (v : Value) (nm : ByteArray) (k : Kv) : Prop :=
  (k.2 = true ∧ ∃ A n c B rs, v = .iface 62 (.agg #[.string nm, .slice A n c]) ∧ Rls w B (.slice A n c) n rs k.1) ∨ (k = ([], false) ∧ v = .iface 78 (.agg #[]))
theorem farT_none (w : World) (T : TypeId) : FarT w T none := fun b cur m h e => by cases e
section
variable {w w' : World} {v : Value} {nm : ByteArray} {k : Kv} {row : Option Nat}
theorem Kept.far (h : Kept w v nm k) (h1 : FarT w 120 row) (h2 : FarT w 91 row) (h3 : FarT w 71 row) (hg : w.grownBy w' row) : Kept w' v nm k := by
  rcases h with ⟨e, A, n, c, B, rs, hv, hr⟩ | h
  · exact .inl ⟨e, A, n, c, B, rs, hv, hr.far h1 h2 h3 hg⟩
  · exact .inr h
theorem Kept.below (h : Kept w v nm k) (hb : Below w.heap.size w w') : Kept w' v nm k := h.far (farT_none _ _) (farT_none _ _) (farT_none _ _) (only_of_below hb none)
end
/-- The map's names and values. -/
def nvs (val : ByteArray → Value) (l : List Kn) : List Nv := l.map fun q => (q.1, val q.1)
theorem nvs_length (val : ByteArray → Value) (l : List Kn) : (nvs val l).length = l.length := by simp [nvs]
theorem nvs_names (val : ByteArray → Value) (l : List Kn) : (nvs val l).map Prod.fst = namesX l := by simp [nvs, namesX]
theorem lookA_nvs (val : ByteArray → Value) (l : List Kn) (nm : ByteArray) : lookA (nvs val l) nm = (atX l nm).map fun _ => val nm := by
  induction l with
  | nil => rfl
  | cons q t ih =>
    show lookA ((q.1, val q.1) :: nvs val t) nm = _
    rw [lookA, atX]
    by_cases e : q.1 = nm
    · rw [if_pos e, if_pos e]
      simp [e]
    · rw [if_neg e, if_neg e]; exact ih
def IdxM (w : World) (b : Nat) (l : List Kn) : Prop := ∃ val, OwnV w b l.length (nvs val l) ∧ ∀ q ∈ l, Kept w (val q.1) q.1 q.2
/-- An index: its struct in block g, its map, if it has one. -/
def Idx (w : World) (g : Nat) (mo : Option Nat) (l : List Kn) : Prop := Blk w g 52 #[.map mo] ∧ ((mo = none ∧ l = []) ∨ ∃ b, mo = some b ∧ IdxM w b l)
/-- The block that a put writes. -/
def rowX (g : Nat) (mo : Option Nat) : Nat := mo.getD g
theorem farT_map {w : World} {b n : Nat} {l : List Nv} (T : TypeId) (h : OwnV w b n l) : FarT w T (some b) := by
  obtain ⟨D, ⟨es, clock, hb, _⟩, _⟩ := h
  intro b' cur m h e
  injection e with e
  subst e
  rw [hb] at h
  cases h
section
variable {w w' : World} {g g2 b : Nat} {mo mo2 : Option Nat} {l l2 : List Kn} {row : Option Nat}
theorem IdxM.far (h : IdxM w b l) (hne : some b ≠ row) (h1 : FarT w 120 row) (h2 : FarT w 91 row) (h3 : FarT w 71 row) (hg : w.grownBy w' row) : IdxM w' b l := by
  obtain ⟨val, ho, hk⟩ := h
  exact ⟨val, ho.kept hg hne, fun q hq => (hk q hq).far h1 h2 h3 hg⟩
theorem Idx.far (h : Idx w g mo l) (hne : some g ≠ row) (hm : ∀ b, mo = some b → some b ≠ row) (h1 : FarT w 120 row) (h2 : FarT w 91 row) (h3 : FarT w 71 row) (hg : w.grownBy w' row) : Idx w' g mo l := by
  obtain ⟨hb, h⟩ := h
  refine ⟨hb.grown hg hne, ?_⟩
  rcases h with h | ⟨b, e, h⟩
  · exact .inl h
  · exact .inr ⟨b, e, h.far (hm b e) h1 h2 h3 hg⟩
theorem Idx.below (h : Idx w g mo l) (hb : Below w.heap.size w w') : Idx w' g mo l :=
  h.far (by simp) (by simp) (farT_none _ _) (farT_none _ _) (farT_none _ _) (only_of_below hb none)
theorem Idx.lt (h : Idx w g mo l) : g < w.heap.size := h.1.lt
theorem Idx.mlt (h : Idx w g mo l) (e : mo = some b) : b < w.heap.size := by
  rcases h.2 with ⟨e2, _⟩ | ⟨b2, e2, val, ho, _⟩
  · rw [e] at e2; cases e2
  · rw [e] at e2
    injection e2 with e2
    subst e2
    exact ho.lt
theorem Idx.rowlt (h : Idx w g mo l) : rowX g mo < w.heap.size := by
  cases e : mo with
  | none => exact h.lt
  | some b => exact h.mlt e
theorem Idx.farT (h : Idx w g mo l) {T : TypeId} (hT : T ≠ 52) : FarT w T (some (rowX g mo)) := by
  obtain ⟨hb, h⟩ := h
  rcases h with ⟨rfl, _⟩ | ⟨b, rfl, val, ho, _⟩
  · exact farT_blk hb hT
  · exact farT_map T ho
/-- The struct's block is no map's. -/
theorem Idx.apart (h : Idx w g mo l) (h2 : Idx w g2 mo2 l2) (e : mo2 = some b) : g ≠ b := by
  intro e1
  subst e1
  rcases h2.2 with ⟨e2, _⟩ | ⟨b2, e2, val, ho, _⟩
  · rw [e] at e2; cases e2
  · rw [e] at e2
    injection e2 with e2
    subst e2
    exact farT_map 52 ho _ _ _ h.1 rfl
/-- An index beside one that is written. -/
theorem Idx.beside (h : Idx w g mo l) (h2 : Idx w g2 mo2 l2) (hne : g ≠ g2) (hm : ∀ b, mo = some b → mo2 = some b → False) (hg : w.grownBy w' (some (rowX g2 mo2))) : Idx w' g mo l := by
  refine h.far ?_ ?_ (h2.farT (by decide)) (h2.farT (by decide)) (h2.farT (by decide)) hg
  · intro e
    injection e with e
    cases e2 : mo2 with
    | none => rw [e2] at e; exact hne e
    | some b => rw [e2] at e; exact h.apart h2 e2 e
  · intro b e1 e
    injection e with e
    cases e2 : mo2 with
    | none => rw [e2] at e; exact h2.apart h e1 e.symm
    | some b2 => rw [e2] at e; exact hm b e1 (by rw [e2]; exact congrArg some e.symm)
/-- A block of another type beside an index that is written. -/
theorem Idx.blk {cs : Array Value} {T : TypeId} {p : Nat} (h : Idx w g mo l) (hp : Blk w p T cs) (hT : T ≠ 52) (hg : w.grownBy w' (some (rowX g mo))) : Blk w' p T cs :=
  hp.grown hg (h.farT hT p _ _ hp)
end
/-! The document's. -/
theorem info_known : (Try.prog.info? 60).map (fun i => (i.zero, i.size, i.bytes)) = some (some (.agg #[.string ByteArray.empty, .slice none 0 0, .bool false]), 3, 48) := by kernel_rfl
/-- What is known, as it lies: a name, a slice, whether it is good. -/
abbrev Rk := ByteArray × Value × Bool
def kcs : List Rk → List Value
  | [] => []
  | r :: t => .string r.1 :: r.2.1 :: .bool r.2.2 :: kcs t
theorem kcs_length (l : List Rk) : (kcs l).length = l.length * 3 := by
  induction l with
  | nil => rfl
  | cons s t ih => simp [kcs, ih]; omega
theorem kcs_append (l m : List Rk) : kcs (l ++ m) = kcs l ++ kcs m := by
  induction l with
  | nil => rfl
  | cons s t ih => simp [kcs, ih]
theorem kcs_one (l : List Rk) (h : ∀ r ∈ l, ∃ A n c, r.2.1 = .slice A n c) : ∀ u ∈ kcs l, u.oneCell' = true := by
  induction l with
  | nil => intro u hu; cases hu
  | cons s t ih =>
    intro u hu
    simp only [kcs, List.mem_cons] at hu
    rcases hu with rfl | rfl | rfl | hu
    · rfl
    · obtain ⟨A, n, c, e⟩ := h s (by simp)
      rw [e]; rfl
    · rfl
    · exact ih (fun r hr => h r (by simp [hr])) u hu
theorem kcs_get (l : List Rk) : ∀ (i : Nat) (r : Rk), l[i]? = some r → (kcs l)[i * 3]? = some (.string r.1) ∧ (kcs l)[i * 3 + 1]? = some r.2.1 ∧ (kcs l)[i * 3 + 2]? = some (.bool r.2.2) := by
  induction l with
  | nil => intro i s h; simp at h
  | cons x t ih =>
    intro i s h
    cases i with
    | zero => simp at h; subst h; exact ⟨rfl, rfl, rfl⟩
    | succ i =>
      rw [List.getElem?_cons_succ] at h
      have := ih i s h
      rw [show (i + 1) * 3 = i * 3 + 1 + 1 + 1 by omega, show i * 3 + 1 + 1 + 1 + 1 = (i * 3 + 1) + 1 + 1 + 1 by omega, show i * 3 + 1 + 1 + 1 + 2 = (i * 3 + 2) + 1 + 1 + 1 by omega]
      exact this
def KFit (w : World) (r : Rk) (q : Kn) : Prop := r.1 = q.1 ∧ r.2.2 = q.2.2 ∧ ∃ A n c B rs, r.2.1 = .slice A n c ∧ Rls w B (.slice A n c) n rs q.2.1
theorem KFit.far {w w' : World} {row : Option Nat} {r : Rk} {q : Kn} (h : KFit w r q) (h1 : FarT w 120 row) (h2 : FarT w 91 row) (h3 : FarT w 71 row) (hg : w.grownBy w' row) : KFit w' r q := by
  obtain ⟨e1, e2, A, n, c, B, rs, e3, hr⟩ := h
  exact ⟨e1, e2, A, n, c, B, rs, e3, hr.far h1 h2 h3 hg⟩
theorem KFit.below {w w' : World} {r : Rk} {q : Kn} (h : KFit w r q) (hb : Below w.heap.size w w') : KFit w' r q := h.far (farT_none _ _) (farT_none _ _) (farT_none _ _) (only_of_below hb none)
def AllK (w : World) (rs : List Rk) (l : List Kn) : Prop := rs.length = l.length ∧ ∀ (i : Nat) (r : Rk) (q : Kn), rs[i]? = some r → l[i]? = some q → KFit w r q
section
variable {w w' w1 : World} {B n m : Nat} {v v1 : Value} {rs rs2 : List Rk} {l l2 : List Kn} {A : Option Addr} {row : Option Nat}
theorem AllK.mono (h : AllK w rs l) (hk : ∀ r q, KFit w r q → KFit w' r q) : AllK w' rs l := ⟨h.1, fun i r q hr hq => hk _ _ (h.2 i r q hr hq)⟩
theorem AllK.append (h : AllK w rs l) (h2 : AllK w rs2 l2) : AllK w (rs ++ rs2) (l ++ l2) :=
  ⟨by simp [h.1, h2.1], fun i r q hr hq => by
    rcases Nat.lt_or_ge i rs.length with hi | hi
    · rw [List.getElem?_append_left hi] at hr
      rw [List.getElem?_append_left (by rw [← h.1]; exact hi)] at hq
      exact h.2 i r q hr hq
    · rw [List.getElem?_append_right hi] at hr
      rw [List.getElem?_append_right (by rw [← h.1]; exact hi), ← h.1] at hq
      exact h2.2 _ r q hr hq⟩
theorem AllK.one {r : Rk} {q : Kn} (h : KFit w r q) : AllK w [r] [q] :=
  ⟨rfl, fun i r q hr hq => by
    rcases i with _ | i
    · simp at hr hq
      subst hr hq
      exact h
    · simp at hr⟩
/-- A slice that reads as what is known, in a block of its own type. -/
def InK (w : World) (A : Option Addr) (n : Nat) (l : List Kn) : Prop :=
  ∃ rs, Reads w w.heap.size 3 A n (kcs rs) ∧ AllK w rs l ∧ ∀ ad, A = some ad → 0 < n → ∃ cur m, w.heap[ad.block]? = some (.cells cur 60 m)
theorem InK.len (h : InK w A n l) : l.length = n := by
  obtain ⟨rs, h1, h2, _⟩ := h
  have := h1.1
  rw [kcs_length] at this
  have := h2.1
  omega
theorem InK.at_ {k : Nat} (h : InK w A n l) (hk : k < n) :
    ∃ ad q A' n' c' B' rs', A = some ad ∧ ad.block < w.heap.size ∧ l[k]? = some q ∧ Rls w B' (.slice A' n' c') n' rs' q.2.1 ∧ w.cell? (ad.add (k * 3)) = some (.string q.1) ∧ w.cell? ⟨(ad.add (k * 3)).block, (ad.add (k * 3)).off + 1, none⟩ = some (.slice A' n' c') ∧
      w.cell? ⟨(ad.add (k * 3)).block, (ad.add (k * 3)).off + 2, none⟩ = some (.bool q.2.2) := by
  have hl := h.len
  obtain ⟨rs, h1, h2, _⟩ := h
  obtain ⟨ad, hA, hb, hc⟩ := h1.2 (by omega)
  have hr : k < rs.length := by rw [h2.1]; omega
  obtain ⟨e1, e2, A', n', c', B', rs', e3, hs⟩ := h2.2 k rs[k] (l[k]'(by omega)) (by simp) (by simp)
  obtain ⟨g1, g2, g3⟩ := kcs_get rs k rs[k] (by simp)
  have two : ∀ i : Nat, (ad.add i).add 2 = ⟨(ad.add i).block, (ad.add i).off + 2, none⟩ := fun i => by
    show (if (2 : Nat) = 0 then _ else _) = _
    rw [if_neg (by omega)]
  refine ⟨ad, l[k]'(by omega), A', n', c', B', rs', hA, hb, by simp, hs, ?_, ?_, ?_⟩
  · rw [← e1]; exact hc _ _ g1
  · rw [← add_field, ← e3]; exact hc _ _ g2
  · rw [← two, add_of_add, ← e2]; exact hc _ _ g3
theorem InK.far (h : InK w A n l) (h1 : FarT w 120 row) (h2 : FarT w 91 row) (h3 : FarT w 71 row) (h4 : FarT w 60 row) (hg : w.grownBy w' row) : InK w' A n l := by
  obtain ⟨rs, g1, g2, g3⟩ := h
  have blk : ∀ ad, A = some ad → 0 < n → w'.heap[ad.block]? = w.heap[ad.block]? := fun ad hA hn => by
    obtain ⟨ad', hA', hlt, _⟩ := g1.2 hn
    rw [hA] at hA'
    injection hA' with hA'
    subst hA'
    obtain ⟨cur, k, h5⟩ := g3 ad hA hn
    exact hg.block _ hlt (h4 _ _ _ h5)
  refine ⟨rs, ⟨g1.1, fun hn => ?_⟩, g2.mono fun _ _ hs => hs.far h1 h2 h3 hg, fun ad hA hn => ?_⟩
  · obtain ⟨ad, hA, hlt, hc⟩ := g1.2 hn
    exact ⟨ad, hA, Nat.lt_of_lt_of_le hlt hg.size, fun j u hu => (World.cell?_of_block (by rw [block_of_add]; exact blk ad hA hn)).trans (hc j u hu)⟩
  · obtain ⟨cur, k, h5⟩ := g3 ad hA hn
    exact ⟨cur, k, (blk ad hA hn).trans h5⟩
theorem InK.below (h : InK w A n l) (hb : Below w.heap.size w w') : InK w' A n l :=
  h.far (farT_none _ _) (farT_none _ _) (farT_none _ _) (farT_none _ _) (only_of_below hb none)
theorem InK.nil (w : World) : InK w none 0 [] := ⟨[], ⟨rfl, fun h => absurd h (by omega)⟩, ⟨rfl, fun i r q hr _ => by simp at hr⟩, fun ad hA => by cases hA⟩
/-- A row of the call's own. -/
def Kns (w : World) (B : Nat) (v : Value) (n : Nat) (rs : List Rk) (l : List Kn) : Prop := w.ownsRow B 60 3 v n (kcs rs) ∧ AllK w rs l
theorem Kns.nil_ (w : World) (B : Nat) : Kns w B (.slice none 0 0) 0 [] [] := ⟨World.ownsRow_nil w B _ 3, rfl, fun i r q hr _ => by simp at hr⟩
theorem Kns.below (h : Kns w B v n rs l) (hb : Below w.heap.size w w') : Kns w' B v n rs l := ⟨own_below h.1 hb, h.2.mono fun _ _ hs => hs.below hb⟩
theorem Kns.cat (h : Kns w B v n rs l) (h2 : AllK w rs2 l2) (h1 : w1.ownsRow B 60 3 v1 m (kcs rs ++ kcs rs2)) (hg : w.grownBy w1 v.ownBlock) : Kns w1 B v1 m (rs ++ rs2) (l ++ l2) :=
  ⟨by rw [kcs_append]; exact h1, (h.2.append h2).mono fun _ _ hs => hs.far (farT_own h.1 (by decide)) (farT_own h.1 (by decide)) (farT_own h.1 (by decide)) hg⟩
theorem Kns.told (h : Kns w B v n rs l) : ∃ A c, v = .slice A n c ∧ n ≤ c ∧ InK w A n l := by
  obtain ⟨A, c, rfl, hc, _, hr⟩ := own_form h.1
  refine ⟨A, c, rfl, hc, rs, hr, h.2, fun ad hA hn => ?_⟩
  rcases h.1.2 with ⟨e, _⟩ | ⟨g, cap, cur, e, hB, hgg, _⟩
  · injection e with e1 e2 e3
    omega
  · injection e with e1 e2 e3
    rw [hA] at e1
    injection e1 with e1
    subst e1
    exact ⟨cur, _, hgg⟩
theorem reads_known (w : World) (nm : ByteArray) (A : Option Addr) (n c : Nat) (b : Bool) (T : TypeId) (g : Nat) (hg : g = w.heap.size) :
    Reads (w.alloc (.cells #[.string nm, .slice A n c, .bool b] T)) (w.heap.size + 1) 3 (some ⟨g, 0, none⟩) 1 (kcs [(nm, .slice A n c, b)]) := by
  subst hg
  have h := Reads.newL w T #[.string nm, .slice A n c, .bool b]
  exact ⟨rfl, fun _ => h.2 (by simp)⟩
theorem one_known (nm : ByteArray) (A : Option Addr) (n c : Nat) (b : Bool) : ∀ u ∈ kcs [(nm, .slice A n c, b)], u.oneCell' = true := kcs_one _ fun r hr => by
  rw [List.mem_singleton.1 hr]
  exact ⟨A, n, c, rfl⟩
end
/-- The document's index behind a pointer. -/
def Doc (w : World) (g : Nat) (l : List Kn) : Prop := ∃ A n c, Blk w g 29 #[.slice A n c] ∧ InK w A n l
end Go.Proofs.Ytaiinbkfllafiaa.Index

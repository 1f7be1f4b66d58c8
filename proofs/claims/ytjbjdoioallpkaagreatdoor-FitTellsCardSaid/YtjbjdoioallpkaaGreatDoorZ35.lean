/-
  Some texts of this claim, one behind the other: IndexCells, ReachBfs, IndexAt. What each proves, and its condition, stands at its head.
-/
import Derived.Test.YtjbjdoioallpkaaGreatDoorZ28
import Derived.Test.YtjbjdoioallpkaaGreatDoorZ30
import Derived.Test.YtjbjdoioallpkaaGreatDoorZ23
import Derived.Test.YtjbjdoioallpkaaGreatDoorZ29
import Derived.Sort.KeysCollected
import Derived.Test.YtjbjdoioallpkaaGreatDoorZ24
/-
  An index in memory: the program's, a struct of a map from names to values of an interface; the document's, a struct of a slice of known names. No condition.
-/
namespace Go.Proofs.YtjbjdoioallpkaaGreatDoor.Index
open Go Go.RowKit Go.Lib Go.Proofs.YtjbjdoioallpkaaGreatDoor.Span Go.Proofs.YtjbjdoioallpkaaGreatDoor.Need Go.Proofs.YtjbjdoioallpkaaGreatDoor.Mani Go.Proofs.YtjbjdoioallpkaaGreatDoor.Wire Go.Proofs.YtjbjdoioallpkaaGreatDoor.Depot Go.Proofs.YtjbjdoioallpkaaGreatDoor.MapV
set_option linter.unusedVariables false
/-- Releases that are looked at. -/
def FineX (l : List Kn) : Prop := ∀ q ∈ l, FineR q.2.1
theorem FineX.nil : FineX [] := fun q hq => by cases hq
theorem FineX.put {l : List Kn} (h : FineX l) (nm : ByteArray) (b : List UInt8) : FineX (putX l nm b) := by
  unfold putX
  split
  · intro q hq
    rcases (insX_mem _ _).1 hq with rfl | hq
    · exact relE_fine nm b
    · exact h q hq
  · exact h
theorem FineX.puts {l : List Kn} (h : FineX l) (es : List En) : FineX (putsX l es) := by
  induction es generalizing l with
  | nil => exact h
  | cons e t ih => exact ih (h.put e.1 e.2)
theorem FineX.get {l : List Kn} (h : FineX l) (nm : ByteArray) : FineR (getX l nm).1 := by
  unfold getX
  cases g : atX l nm with
  | none => exact ⟨by simp, fun q hq => by cases hq⟩
  | some k => exact h _ (atX_in g)
/-! The program's. -/
/-- What is kept of a name, as it lies. -/
def Kept (w : World) (v : Value) (nm : ByteArray) (k : Kv) : Prop :=
  (k.2 = true ∧ ∃ A n c B rs, v = .iface 115 (.agg #[.string nm, .slice A n c]) ∧ Rls w B (.slice A n c) n rs k.1) ∨ (k = ([], false) ∧ v = .iface 114 (.agg #[]))
theorem farT_none (w : World) (T : TypeId) : FarT w T none := fun b cur m h e => by cases e
section
variable {w w' : World} {v : Value} {nm : ByteArray} {k : Kv} {row : Option Nat}
theorem Kept.far (h : Kept w v nm k) (h1 : FarT w 58 row) (h2 : FarT w 49 row) (h3 : FarT w 77 row) (hg : w.grownBy w' row) : Kept w' v nm k := by
  rcases h with ⟨e, A, n, c, B, rs, hv, hr⟩ | h
  · exact .inl ⟨e, A, n, c, B, rs, hv, hr.far h1 h2 h3 hg⟩
  · exact .inr h
theorem Kept.below (h : Kept w v nm k) (hb : Below w.heap.size w w') : Kept w' v nm k := h.far (farT_none _ _) (farT_none _ _) (farT_none _ _) (only_of_below hb none)
end
/-- The map's names and values. -/
def nvs (val : ByteArray → Value) (l : List Kn) : List Nv := l.map fun q => (q.1, val q.1)
theorem nvs_length (val : ByteArray → Value) (l : List Kn) : (nvs val l).length = l.length := by simp [nvs]
theorem nvs_names (val : ByteArray → Value) (l : List Kn) : (nvs val l).map Prod.fst = namesX l := by simp [nvs, namesX]
theorem lookA_nvs (val : ByteArray → Value) (l : List Kn) (nm : ByteArray) : lookA (nvs val l) nm = (atX l nm).map fun _ => val nm := by
  induction l with
  | nil => rfl
  | cons q t ih =>
    show lookA ((q.1, val q.1) :: nvs val t) nm = _
    rw [lookA, atX]
    by_cases e : q.1 = nm
    · rw [if_pos e, if_pos e]
      simp [e]
    · rw [if_neg e, if_neg e]; exact ih
def IdxM (w : World) (b : Nat) (l : List Kn) : Prop := ∃ val, OwnV w b l.length (nvs val l) ∧ ∀ q ∈ l, Kept w (val q.1) q.1 q.2
/-- An index: its struct in block g, its map, if it has one. -/
def Idx (w : World) (g : Nat) (mo : Option Nat) (l : List Kn) : Prop := Blk w g 88 #[.map mo] ∧ ((mo = none ∧ l = []) ∨ ∃ b, mo = some b ∧ IdxM w b l)
/-- The block that a put writes. -/
def rowX (g : Nat) (mo : Option Nat) : Nat := mo.getD g
theorem farT_map {w : World} {b n : Nat} {l : List Nv} (T : TypeId) (h : OwnV w b n l) : FarT w T (some b) := by
  obtain ⟨D, ⟨es, clock, hb, _⟩, _⟩ := h
  intro b' cur m h e
  injection e with e
  subst e
  rw [hb] at h
  cases h
section
variable {w w' : World} {g g2 b : Nat} {mo mo2 : Option Nat} {l l2 : List Kn} {row : Option Nat}
theorem IdxM.far (h : IdxM w b l) (hne : some b ≠ row) (h1 : FarT w 58 row) (h2 : FarT w 49 row) (h3 : FarT w 77 row) (hg : w.grownBy w' row) : IdxM w' b l := by
  obtain ⟨val, ho, hk⟩ := h
  exact ⟨val, ho.kept hg hne, fun q hq => (hk q hq).far h1 h2 h3 hg⟩
theorem Idx.far (h : Idx w g mo l) (hne : some g ≠ row) (hm : ∀ b, mo = some b → some b ≠ row) (h1 : FarT w 58 row) (h2 : FarT w 49 row) (h3 : FarT w 77 row) (hg : w.grownBy w' row) : Idx w' g mo l := by
  obtain ⟨hb, h⟩ := h
  refine ⟨hb.grown hg hne, ?_⟩
  rcases h with h | ⟨b, e, h⟩
  · exact .inl h
  · exact .inr ⟨b, e, h.far (hm b e) h1 h2 h3 hg⟩
theorem Idx.below (h : Idx w g mo l) (hb : Below w.heap.size w w') : Idx w' g mo l :=
  h.far (by simp) (by simp) (farT_none _ _) (farT_none _ _) (farT_none _ _) (only_of_below hb none)
theorem Idx.lt (h : Idx w g mo l) : g < w.heap.size := h.1.lt
theorem Idx.mlt (h : Idx w g mo l) (e : mo = some b) : b < w.heap.size := by
  rcases h.2 with ⟨e2, _⟩ | ⟨b2, e2, val, ho, _⟩
  · rw [e] at e2; cases e2
  · rw [e] at e2
    injection e2 with e2
    subst e2
    exact ho.lt
theorem Idx.rowlt (h : Idx w g mo l) : rowX g mo < w.heap.size := by
  cases e : mo with
  | none => exact h.lt
  | some b => exact h.mlt e
theorem Idx.farT (h : Idx w g mo l) {T : TypeId} (hT : T ≠ 88) : FarT w T (some (rowX g mo)) := by
  obtain ⟨hb, h⟩ := h
  rcases h with ⟨rfl, _⟩ | ⟨b, rfl, val, ho, _⟩
  · exact farT_blk hb hT
  · exact farT_map T ho
/-- The struct's block is no map's. -/
theorem Idx.apart (h : Idx w g mo l) (h2 : Idx w g2 mo2 l2) (e : mo2 = some b) : g ≠ b := by
  intro e1
  subst e1
  rcases h2.2 with ⟨e2, _⟩ | ⟨b2, e2, val, ho, _⟩
  · rw [e] at e2; cases e2
  · rw [e] at e2
    injection e2 with e2
    subst e2
    exact farT_map 88 ho _ _ _ h.1 rfl
/-- An index beside one that is written. -/
theorem Idx.beside (h : Idx w g mo l) (h2 : Idx w g2 mo2 l2) (hne : g ≠ g2) (hm : ∀ b, mo = some b → mo2 = some b → False) (hg : w.grownBy w' (some (rowX g2 mo2))) : Idx w' g mo l := by
  refine h.far ?_ ?_ (h2.farT (by decide)) (h2.farT (by decide)) (h2.farT (by decide)) hg
  · intro e
    injection e with e
    cases e2 : mo2 with
    | none => rw [e2] at e; exact hne e
    | some b => rw [e2] at e; exact h.apart h2 e2 e
  · intro b e1 e
    injection e with e
    cases e2 : mo2 with
    | none => rw [e2] at e; exact h2.apart h e1 e.symm
    | some b2 => rw [e2] at e; exact hm b e1 (by rw [e2]; exact congrArg some e.symm)
/-- A block of another type beside an index that is written. -/
theorem Idx.blk {cs : Array Value} {T : TypeId} {p : Nat} (h : Idx w g mo l) (hp : Blk w p T cs) (hT : T ≠ 88) (hg : w.grownBy w' (some (rowX g mo))) : Blk w' p T cs :=
  hp.grown hg (h.farT hT p _ _ hp)
end
/-! The document's. -/
theorem info_known : (Tryz.prog.info? 99).map (fun i => (i.zero, i.size, i.bytes)) = some (some (.agg #[.string ByteArray.empty, .slice none 0 0, .bool false]), 3, 48) := by kernel_rfl
/-- What is known, as it lies: a name, a slice, whether it is good. -/
abbrev Rk := ByteArray × Value × Bool
def kcs : List Rk → List Value
  | [] => []
  | r :: t => .string r.1 :: r.2.1 :: .bool r.2.2 :: kcs t
theorem kcs_length (l : List Rk) : (kcs l).length = l.length * 3 := by
  induction l with
  | nil => rfl
  | cons s t ih => simp [kcs, ih]; omega
theorem kcs_append (l m : List Rk) : kcs (l ++ m) = kcs l ++ kcs m := by
  induction l with
  | nil => rfl
  | cons s t ih => simp [kcs, ih]
theorem kcs_one (l : List Rk) (h : ∀ r ∈ l, ∃ A n c, r.2.1 = .slice A n c) : ∀ u ∈ kcs l, u.oneCell' = true := by
  induction l with
  | nil => intro u hu; cases hu
  | cons s t ih =>
    intro u hu
    simp only [kcs, List.mem_cons] at hu
    rcases hu with rfl | rfl | rfl | hu
    · rfl
    · obtain ⟨A, n, c, e⟩ := h s (by simp)
      rw [e]; rfl
    · rfl
    · exact ih (fun r hr => h r (by simp [hr])) u hu
theorem kcs_get (l : List Rk) : ∀ (i : Nat) (r : Rk), l[i]? = some r → (kcs l)[i * 3]? = some (.string r.1) ∧ (kcs l)[i * 3 + 1]? = some r.2.1 ∧ (kcs l)[i * 3 + 2]? = some (.bool r.2.2) := by
  induction l with
  | nil => intro i s h; simp at h
  | cons x t ih =>
    intro i s h
    cases i with
    | zero => simp at h; subst h; exact ⟨rfl, rfl, rfl⟩
    | succ i =>
      rw [List.getElem?_cons_succ] at h
      have := ih i s h
      rw [show (i + 1) * 3 = i * 3 + 1 + 1 + 1 by omega, show i * 3 + 1 + 1 + 1 + 1 = (i * 3 + 1) + 1 + 1 + 1 by omega, show i * 3 + 1 + 1 + 1 + 2 = (i * 3 + 2) + 1 + 1 + 1 by omega]
      exact this
def KFit (w : World) (r : Rk) (q : Kn) : Prop := r.1 = q.1 ∧ r.2.2 = q.2.2 ∧ ∃ A n c B rs, r.2.1 = .slice A n c ∧ Rls w B (.slice A n c) n rs q.2.1
theorem KFit.far {w w' : World} {row : Option Nat} {r : Rk} {q : Kn} (h : KFit w r q) (h1 : FarT w 58 row) (h2 : FarT w 49 row) (h3 : FarT w 77 row) (hg : w.grownBy w' row) : KFit w' r q := by
  obtain ⟨e1, e2, A, n, c, B, rs, e3, hr⟩ := h
  exact ⟨e1, e2, A, n, c, B, rs, e3, hr.far h1 h2 h3 hg⟩
theorem KFit.below {w w' : World} {r : Rk} {q : Kn} (h : KFit w r q) (hb : Below w.heap.size w w') : KFit w' r q := h.far (farT_none _ _) (farT_none _ _) (farT_none _ _) (only_of_below hb none)
def AllK (w : World) (rs : List Rk) (l : List Kn) : Prop := rs.length = l.length ∧ ∀ (i : Nat) (r : Rk) (q : Kn), rs[i]? = some r → l[i]? = some q → KFit w r q
section
variable {w w' w1 : World} {B n m : Nat} {v v1 : Value} {rs rs2 : List Rk} {l l2 : List Kn} {A : Option Addr} {row : Option Nat}
theorem AllK.mono (h : AllK w rs l) (hk : ∀ r q, KFit w r q → KFit w' r q) : AllK w' rs l := ⟨h.1, fun i r q hr hq => hk _ _ (h.2 i r q hr hq)⟩
theorem AllK.append (h : AllK w rs l) (h2 : AllK w rs2 l2) : AllK w (rs ++ rs2) (l ++ l2) :=
  ⟨by simp [h.1, h2.1], fun i r q hr hq => by
    rcases Nat.lt_or_ge i rs.length with hi | hi
    · rw [List.getElem?_append_left hi] at hr
      rw [List.getElem?_append_left (by rw [← h.1]; exact hi)] at hq
      exact h.2 i r q hr hq
    · rw [List.getElem?_append_right hi] at hr
      rw [List.getElem?_append_right (by rw [← h.1]; exact hi), ← h.1] at hq
      exact h2.2 _ r q hr hq⟩
theorem AllK.one {r : Rk} {q : Kn} (h : KFit w r q) : AllK w [r] [q] :=
  ⟨rfl, fun i r q hr hq => by
    rcases i with _ | i
    · simp at hr hq
      subst hr hq
      exact h
    · simp at hr⟩
/-- A slice that reads as what is known, in a block of its own type. -/
def InK (w : World) (A : Option Addr) (n : Nat) (l : List Kn) : Prop :=
  ∃ rs, Reads w w.heap.size 3 A n (kcs rs) ∧ AllK w rs l ∧ ∀ ad, A = some ad → 0 < n → ∃ cur m, w.heap[ad.block]? = some (.cells cur 99 m)
theorem InK.len (h : InK w A n l) : l.length = n := by
  obtain ⟨rs, h1, h2, _⟩ := h
  have := h1.1
  rw [kcs_length] at this
  have := h2.1
  omega
theorem InK.at_ {k : Nat} (h : InK w A n l) (hk : k < n) :
    ∃ ad q A' n' c' B' rs', A = some ad ∧ ad.block < w.heap.size ∧ l[k]? = some q ∧ Rls w B' (.slice A' n' c') n' rs' q.2.1 ∧ w.cell? (ad.add (k * 3)) = some (.string q.1) ∧ w.cell? ⟨(ad.add (k * 3)).block, (ad.add (k * 3)).off + 1, none⟩ = some (.slice A' n' c') ∧
      w.cell? ⟨(ad.add (k * 3)).block, (ad.add (k * 3)).off + 2, none⟩ = some (.bool q.2.2) := by
  have hl := h.len
  obtain ⟨rs, h1, h2, _⟩ := h
  obtain ⟨ad, hA, hb, hc⟩ := h1.2 (by omega)
  have hr : k < rs.length := by rw [h2.1]; omega
  obtain ⟨e1, e2, A', n', c', B', rs', e3, hs⟩ := h2.2 k rs[k] (l[k]'(by omega)) (by simp) (by simp)
  obtain ⟨g1, g2, g3⟩ := kcs_get rs k rs[k] (by simp)
  have two : ∀ i : Nat, (ad.add i).add 2 = ⟨(ad.add i).block, (ad.add i).off + 2, none⟩ := fun i => by
    show (if (2 : Nat) = 0 then _ else _) = _
    rw [if_neg (by omega)]
  refine ⟨ad, l[k]'(by omega), A', n', c', B', rs', hA, hb, by simp, hs, ?_, ?_, ?_⟩
  · rw [← e1]; exact hc _ _ g1
  · rw [← add_field, ← e3]; exact hc _ _ g2
  · rw [← two, add_of_add, ← e2]; exact hc _ _ g3
theorem InK.far (h : InK w A n l) (h1 : FarT w 58 row) (h2 : FarT w 49 row) (h3 : FarT w 77 row) (h4 : FarT w 99 row) (hg : w.grownBy w' row) : InK w' A n l := by
  obtain ⟨rs, g1, g2, g3⟩ := h
  have blk : ∀ ad, A = some ad → 0 < n → w'.heap[ad.block]? = w.heap[ad.block]? := fun ad hA hn => by
    obtain ⟨ad', hA', hlt, _⟩ := g1.2 hn
    rw [hA] at hA'
    injection hA' with hA'
    subst hA'
    obtain ⟨cur, k, h5⟩ := g3 ad hA hn
    exact hg.block _ hlt (h4 _ _ _ h5)
  refine ⟨rs, ⟨g1.1, fun hn => ?_⟩, g2.mono fun _ _ hs => hs.far h1 h2 h3 hg, fun ad hA hn => ?_⟩
  · obtain ⟨ad, hA, hlt, hc⟩ := g1.2 hn
    exact ⟨ad, hA, Nat.lt_of_lt_of_le hlt hg.size, fun j u hu => (World.cell?_of_block (by rw [block_of_add]; exact blk ad hA hn)).trans (hc j u hu)⟩
  · obtain ⟨cur, k, h5⟩ := g3 ad hA hn
    exact ⟨cur, k, (blk ad hA hn).trans h5⟩
theorem InK.below (h : InK w A n l) (hb : Below w.heap.size w w') : InK w' A n l :=
  h.far (farT_none _ _) (farT_none _ _) (farT_none _ _) (farT_none _ _) (only_of_below hb none)
theorem InK.nil (w : World) : InK w none 0 [] := ⟨[], ⟨rfl, fun h => absurd h (by omega)⟩, ⟨rfl, fun i r q hr _ => by simp at hr⟩, fun ad hA => by cases hA⟩
/-- A row of the call's own. -/
def Kns (w : World) (B : Nat) (v : Value) (n : Nat) (rs : List Rk) (l : List Kn) : Prop := w.ownsRow B 99 3 v n (kcs rs) ∧ AllK w rs l
theorem Kns.nil_ (w : World) (B : Nat) : Kns w B (.slice none 0 0) 0 [] [] := ⟨World.ownsRow_nil w B _ 3, rfl, fun i r q hr _ => by simp at hr⟩
theorem Kns.below (h : Kns w B v n rs l) (hb : Below w.heap.size w w') : Kns w' B v n rs l := ⟨own_below h.1 hb, h.2.mono fun _ _ hs => hs.below hb⟩
theorem Kns.cat (h : Kns w B v n rs l) (h2 : AllK w rs2 l2) (h1 : w1.ownsRow B 99 3 v1 m (kcs rs ++ kcs rs2)) (hg : w.grownBy w1 v.ownBlock) : Kns w1 B v1 m (rs ++ rs2) (l ++ l2) :=
  ⟨by rw [kcs_append]; exact h1, (h.2.append h2).mono fun _ _ hs => hs.far (farT_own h.1 (by decide)) (farT_own h.1 (by decide)) (farT_own h.1 (by decide)) hg⟩
theorem Kns.told (h : Kns w B v n rs l) : ∃ A c, v = .slice A n c ∧ n ≤ c ∧ InK w A n l := by
  obtain ⟨A, c, rfl, hc, _, hr⟩ := own_form h.1
  refine ⟨A, c, rfl, hc, rs, hr, h.2, fun ad hA hn => ?_⟩
  rcases h.1.2 with ⟨e, _⟩ | ⟨g, cap, cur, e, hB, hgg, _⟩
  · injection e with e1 e2 e3
    omega
  · injection e with e1 e2 e3
    rw [hA] at e1
    injection e1 with e1
    subst e1
    exact ⟨cur, _, hgg⟩
theorem reads_known (w : World) (nm : ByteArray) (A : Option Addr) (n c : Nat) (b : Bool) (T : TypeId) (g : Nat) (hg : g = w.heap.size) :
    Reads (w.alloc (.cells #[.string nm, .slice A n c, .bool b] T)) (w.heap.size + 1) 3 (some ⟨g, 0, none⟩) 1 (kcs [(nm, .slice A n c, b)]) := by
  subst hg
  have h := Reads.newL w T #[.string nm, .slice A n c, .bool b]
  exact ⟨rfl, fun _ => h.2 (by simp)⟩
theorem one_known (nm : ByteArray) (A : Option Addr) (n c : Nat) (b : Bool) : ∀ u ∈ kcs [(nm, .slice A n c, b)], u.oneCell' = true := kcs_one _ fun r hr => by
  rw [List.mem_singleton.1 hr]
  exact ⟨A, n, c, rfl⟩
end
/-- The document's index behind a pointer. -/
def Doc (w : World) (g : Nat) (l : List Kn) : Prop := ∃ A n c, Blk w g 33 #[.slice A n c] ∧ InK w A n l
end Go.Proofs.YtjbjdoioallpkaaGreatDoor.Index
/-
  Plain mathematics of a search through names, one by one, in the order in which they are found: what is found is what may be needed; sorted, it is the list that rises. No program.
-/
namespace Go.Proofs.YtjbjdoioallpkaaGreatDoor.Reach
open Go Go.RowKit Go.Lib Go.Sort Go.Proofs.YtjbjdoioallpkaaGreatDoor.Span Go.Proofs.YtjbjdoioallpkaaGreatDoor.Need Go.Proofs.YtjbjdoioallpkaaGreatDoor.Mani Go.Proofs.YtjbjdoioallpkaaGreatDoor.Wire Go.Proofs.YtjbjdoioallpkaaGreatDoor.Depot Go.Proofs.YtjbjdoioallpkaaGreatDoor.Index
set_option linter.unusedVariables false
/-- Whether a name is among names. -/
instance memN (x : ByteArray) (l : List ByteArray) : Decidable (x ∈ l) := decidable_of_iff (l.any (fun y => decide (y = x)) = true) (by simp)
/-- Those of some names that were not found yet. -/
def newF (acc l : List ByteArray) : List ByteArray := l.foldl (fun o x => if x ∈ acc ++ o then o else o ++ [x]) []
theorem newF_snoc (acc l : List ByteArray) (x : ByteArray) : newF acc (l ++ [x]) = if x ∈ acc ++ newF acc l then newF acc l else newF acc l ++ [x] := by unfold newF; rw [List.foldl_append]; rfl
theorem newF_take {acc l : List ByteArray} {i : Nat} {x : ByteArray} (h : l[i]? = some x) : newF acc (l.take (i + 1)) = if x ∈ acc ++ newF acc (l.take i) then newF acc (l.take i) else newF acc (l.take i) ++ [x] := by rw [take_snoc' l i x h, newF_snoc]
theorem nodup_snoc {l : List ByteArray} {x : ByteArray} (h : l.Nodup) (hx : x ∉ l) : (l ++ [x]).Nodup := by
  unfold List.Nodup at *
  refine List.pairwise_append.2 ⟨h, List.pairwise_singleton _ _, fun a ha b hb => ?_⟩
  rw [List.mem_singleton.1 hb]
  exact fun e => hx (e ▸ ha)
theorem newF_ok {acc : List ByteArray} (ha : acc.Nodup) (l : List ByteArray) : ∀ (o : List ByteArray), (acc ++ o).Nodup →
    (acc ++ l.foldl (fun o x => if x ∈ acc ++ o then o else o ++ [x]) o).Nodup ∧ ∀ z, z ∈ acc ++ l.foldl (fun o x => if x ∈ acc ++ o then o else o ++ [x]) o ↔ z ∈ acc ++ o ∨ z ∈ l := by
  induction l with
  | nil => intro o h; exact ⟨h, fun z => by simp⟩
  | cons x t ih =>
    intro o h
    rw [List.foldl_cons]
    by_cases e : x ∈ acc ++ o
    · rw [if_pos e]
      obtain ⟨h1, h2⟩ := ih o h
      refine ⟨h1, fun z => ?_⟩
      rw [h2, List.mem_cons]
      constructor
      · rintro (g | g)
        · exact .inl g
        · exact .inr (.inr g)
      · rintro (g | g | g)
        · exact .inl g
        · exact .inl (g ▸ e)
        · exact .inr g
    · rw [if_neg e]
      obtain ⟨h1, h2⟩ := ih (o ++ [x]) (by rw [← List.append_assoc]; exact nodup_snoc h e)
      refine ⟨h1, fun z => ?_⟩
      rw [h2, ← List.append_assoc, List.mem_append (s := acc ++ o), List.mem_singleton, List.mem_cons, or_assoc]
theorem newF_nodup {acc : List ByteArray} (ha : acc.Nodup) (l : List ByteArray) : (acc ++ newF acc l).Nodup := (newF_ok ha l [] (by simpa using ha)).1
theorem newF_mem {acc : List ByteArray} (ha : acc.Nodup) (l : List ByteArray) {z : ByteArray} : z ∈ acc ++ newF acc l ↔ z ∈ acc ∨ z ∈ l := by
  have := (newF_ok ha l [] (by simpa using ha)).2 z
  simpa [newF] using this
theorem newF_len (acc l : List ByteArray) : (newF acc l).length ≤ l.length := by
  have key : ∀ (l o : List ByteArray), (l.foldl (fun o x => if x ∈ acc ++ o then o else o ++ [x]) o).length ≤ o.length + l.length := by
    intro l
    induction l with
    | nil => intro o; simp
    | cons x t ih =>
      intro o
      rw [List.foldl_cons]
      by_cases e : x ∈ acc ++ o
      · rw [if_pos e]
        have := ih o
        simp only [List.length_cons]
        omega
      · rw [if_neg e]
        have := ih (o ++ [x])
        simp only [List.length_append, List.length_cons, List.length_nil] at this ⊢
        omega
  have := key l []
  simpa [newF] using this
/-- A name put into names is one more. -/
theorem addF_perm {x : ByteArray} {l : List ByteArray} (h : x ∉ l) : (addF x false l).Perm (x :: l) := by
  induction l with
  | nil => exact List.Perm.refl _
  | cons y t ih =>
    obtain ⟨h1, h2⟩ := not_or.1 (fun g => h (List.mem_cons.2 g))
    rcases tri x y with ⟨g, _⟩ | ⟨_, _, g⟩ | ⟨_, g, _⟩
    · rw [addF_lt g, addF_true]; exact List.Perm.refl _
    · exact absurd (of_decide_eq_true (by rw [← eq_names]; exact g)) h1
    · rw [addF_gt g]
      exact ((ih h2).cons y).trans (List.Perm.swap x y t)
theorem fold_perm : ∀ (l o : List ByteArray), l.Nodup → (∀ x ∈ l, x ∉ o) → (l.foldl (fun o x => addF x false o) o).Perm (l ++ o)
  | [], o, _, _ => List.Perm.refl _
  | x :: t, o, hl, ho => by
    obtain ⟨h1, h2⟩ := List.pairwise_cons.1 hl
    rw [List.foldl_cons]
    have hx : x ∉ o := ho x (by simp)
    refine (fold_perm t (addF x false o) h2 fun y hy hm => ?_).trans ?_
    · rcases (addF_mem x o).1 hm with g | g
      · exact h1 y hy g.symm
      · exact ho y (by simp [hy]) g
    · refine ((addF_perm hx).append_left t).trans ?_
      exact List.perm_middle
theorem foldN_perm {l : List ByteArray} (h : l.Nodup) : (foldN l).Perm l := by
  have := fold_perm l [] h (fun x _ => by simp)
  simpa [foldN] using this
theorem nodup_of_rises {l : List ByteArray} (h : RisesN l) : l.Nodup := List.Pairwise.imp (fun {a b} g e => by rw [e, nlt_self] at g; cases g) h
theorem foldN_id {l : List ByteArray} (h : RisesN l) : foldN l = l := rises_unique (foldN_rises l) h fun _ => foldN_mem l
/-- The search: L is found, of which the first d were gone through. -/
structure Bfs (X : List Kn) (root : List Nd) (L : List ByteArray) (d : Nat) : Prop where
  nodup : L.Nodup
  may : ∀ z, z ∈ L → May X root z
  has : ∀ z, z ∈ namesS root → z ∈ L
  done : ∀ (i : Nat) (a : ByteArray), i < d → L[i]? = some a → ∀ z, z ∈ asksX X a → z ∈ L
theorem bfs_start (X : List Kn) (root : List Nd) : Bfs X root (newF [] (namesS root)) 0 := by
  have hn := newF_nodup (acc := []) List.Pairwise.nil (namesS root)
  have hm := fun z => newF_mem (acc := []) (z := z) List.Pairwise.nil (namesS root)
  simp only [List.nil_append] at hn hm
  exact ⟨hn, fun z hz => .root (by simpa using (hm z).1 hz), fun z hz => (hm z).2 (.inr hz), fun i a hi => by omega⟩
/-- What is asked for by one name, in the words of the program. -/
def asksF (X : List Kn) (a : ByteArray) : List ByteArray := foldN (asksX X a)
theorem Bfs.step {X : List Kn} {root : List Nd} {L : List ByteArray} {d : Nat} {a : ByteArray} (h : Bfs X root L d) (ha : L[d]? = some a) : Bfs X root (L ++ newF L (asksF X a)) (d + 1) := by
  have hm := fun z => newF_mem (z := z) h.nodup (asksF X a)
  have hd : d < L.length := (List.getElem?_eq_some_iff.1 ha).1
  refine ⟨newF_nodup h.nodup _, fun z hz => ?_, fun z hz => (hm z).2 (.inl (h.has z hz)), fun i b hi hb z hz => ?_⟩
  · rcases (hm z).1 hz with g | g
    · exact h.may z g
    · exact .ask (h.may a (List.mem_of_getElem? ha)) ((foldN_mem _).1 g)
  · rw [List.getElem?_append_left (by omega)] at hb
    rcases Nat.lt_or_ge i d with g | g
    · exact (hm z).2 (.inl (h.done i b g hb z hz))
    · have e : i = d := by omega
      subst e
      rw [ha] at hb
      injection hb with hb
      subst hb
      exact (hm z).2 (.inr ((foldN_mem _).2 hz))
theorem Bfs.len {X : List Kn} {root : List Nd} {L : List ByteArray} {d : Nat} (h : Bfs X root L d) : L.length ≤ (allX X root).length := by
  have h1 := (foldN_perm h.nodup).length_eq
  have h2 := len_of_sub (foldN_rises L) (foldN_rises _) (m := allX X root) fun z hz => may_all (h.may z ((foldN_mem L).1 hz))
  omega
theorem Bfs.perm {X : List Kn} {root : List Nd} {L : List ByteArray} (h : Bfs X root L L.length) : L.Perm (reachX X root) := by
  have hr : Reaches X root (foldN L) := by
    refine ⟨foldN_rises L, fun z => ?_⟩
    rw [foldN_mem]
    refine ⟨h.may z, fun hz => ?_⟩
    induction hz with
    | root hr => exact h.has _ hr
    | ask _ hk ih =>
      obtain ⟨i, hi, e⟩ := List.getElem_of_mem ih
      exact h.done i _ hi (List.getElem?_eq_some_iff.2 ⟨hi, e⟩) _ hk
  rw [← reachX_of hr]
  exact (foldN_perm h.nodup).symm
/-- The found names, sorted by the library. -/
theorem Bfs.sorted {X : List Kn} {root : List Nd} {L : List ByteArray} (h : Bfs X root L L.length) : (L.map bytesOf).mergeSort (fun x y => decide (x ≤ y)) = (reachX X root).map bytesOf := by
  have hlt : ((reachX X root).map bytesOf).Pairwise (fun x y => x < y) := List.pairwise_map.2 ((reachX_reaches X root).1.imp fun h => bytes_lt h)
  have h1 := mergeSort_of_perm (h.perm.map bytesOf)
  refine h1.trans ?_
  refine List.mergeSort_of_pairwise (hlt.imp fun h => ?_)
  simp only [leB, decide_eq_true_eq]
  exact List.le_of_lt h
/-- How many names there may be, and how long. -/
theorem flat_len : ∀ (X : List Kn), FineX X → (X.flatMap fun q => allN q.2.1).length ≤ 1200 * X.length
  | [], _ => by simp
  | q :: t, h => by
    have h1 := flat_len t fun p hp => h p (by simp [hp])
    have h2 := h q (by simp)
    have h3 := allN_len (l := q.2.1) fun p hp => (h2.2 p hp).1
    have h4 := h2.1
    simp only [List.flatMap_cons, List.length_append, List.length_cons]
    omega
theorem allX_len {X : List Kn} {root : List Nd} (h : FineX X) (hr : root.length ≤ 40) : (allX X root).length ≤ 40 + 1200 * X.length := by
  have h1 := foldN_len (namesS root ++ X.flatMap fun q => allN q.2.1)
  have h2 := flat_len X h
  unfold allX
  rw [List.length_append] at h1
  unfold namesS at h1 ⊢
  rw [List.length_map] at h1
  omega
theorem asks_fine {X : List Kn} (h : FineX X) (a : ByteArray) : FineR (getX X a).1 := h.get a
theorem asksF_len {X : List Kn} (h : FineX X) (a : ByteArray) : (asksF X a).length ≤ 1200 := by
  have h1 := foldN_len (asksX X a)
  have h2 := asks_fine h a
  have h3 := allN_len (l := (getX X a).1) fun p hp => (h2.2 p hp).1
  have h4 := h2.1
  unfold asksF
  unfold asksX at h1 ⊢
  omega
theorem may_short {X : List Kn} {root : List Nd} {z : ByteArray} (h : FineX X) (hr : ∀ q ∈ root, q.1.size ≤ 100) (hz : May X root z) : z.size ≤ 100 := by
  cases hz with
  | root hm =>
    obtain ⟨q, hq, rfl⟩ := List.mem_map.1 hm
    exact hr q hq
  | @ask a b _ hk =>
    obtain ⟨q, hq, hm⟩ := List.mem_flatMap.1 hk
    obtain ⟨p, hp, rfl⟩ := List.mem_map.1 hm
    exact (((asks_fine h a).2 q hq).2 p hp).1
theorem reachX_mem {X : List Kn} {root : List Nd} {z : ByteArray} : z ∈ reachX X root ↔ May X root z := (reachX_reaches X root).2 z
theorem reachX_rises (X : List Kn) (root : List Nd) : RisesN (reachX X root) := (reachX_reaches X root).1
theorem reachX_len {X : List Kn} {root : List Nd} (h : FineX X) (hr : root.length ≤ 40) : (reachX X root).length ≤ 40 + 1200 * X.length := by
  have h1 := len_of_sub (reachX_rises X root) (foldN_rises _) (m := allX X root) fun z hz => may_all (reachX_mem.1 hz)
  have h2 := allX_len h hr
  omega
/-- What is not known, name by name. -/
def missL (X : List Kn) (l : List ByteArray) : List ByteArray := l.filter fun a => (atX X a).isNone
theorem missL_take {X : List Kn} {l : List ByteArray} {i : Nat} {a : ByteArray} (h : l[i]? = some a) : missL X (l.take (i + 1)) = if (atX X a).isSome = true then missL X (l.take i) else missL X (l.take i) ++ [a] := by
  unfold missL
  rw [take_snoc' l i a h, List.filter_append]
  cases g : atX X a <;> simp [g]
theorem missL_len (X : List Kn) (l : List ByteArray) : (missL X l).length ≤ l.length := List.length_filter_le _ _
theorem missL_all (X : List Kn) (root : List Nd) : missL X (reachX X root) = missX X root := rfl
/-- Of nothing known the names of the needs may be needed. -/
theorem reach_nil {root : List Nd} (h : RisesN (namesS root)) : reachX [] root = namesS root := by
  refine rises_unique (reachX_rises _ _) h fun z => ?_
  rw [reachX_mem]
  constructor
  · intro hz
    induction hz with
    | root hr => exact hr
    | ask _ hk _ => cases hk
  · exact fun hz => .root hz
theorem miss_nil {root : List Nd} (h : RisesN (namesS root)) : (missX [] root).length = root.length := by
  have e : missX [] root = reachX [] root := by
    unfold missX
    rw [List.filter_eq_self]
    intro a _
    rfl
  rw [e, reach_nil h]
  simp [namesS]
/-- A name put where it is already. -/
theorem addF_there {x : ByteArray} {l : List ByteArray} (hl : RisesN l) : (addF x false l).length = if x ∈ l then l.length else l.length + 1 := by
  by_cases h : x ∈ l
  · rw [if_pos h]
    have e : addF x false l = l := rises_unique (addF_rises x hl) hl fun z => by
      rw [addF_mem]
      exact ⟨fun g => g.elim (fun g => g ▸ h) id, .inr⟩
    rw [e]
  · rw [if_neg h, (addF_perm h).length_eq]; rfl
/-- The document's round, in the midst of it. -/
theorem addsN_fold {out acc : List ByteArray} (h : RisesN out) : addsN out (foldN acc) = addsN out acc := by
  obtain ⟨h1, h2⟩ := addsN_ok (foldN acc) h
  obtain ⟨h3, h4⟩ := addsN_ok acc h
  exact rises_unique h1 h3 fun z => by rw [h2, h4, foldN_mem]
theorem addsN_take {out acc : List ByteArray} {k : Nat} {x : ByteArray} (h : acc[k]? = some x) : addsN out (acc.take (k + 1)) = addF x false (addsN out (acc.take k)) := by rw [take_snoc' acc k x h, addsN_snoc]
theorem stepN_fold {X : List Kn} {root : List Nd} {out : List ByteArray} {i : Nat} {a : ByteArray} (h : Under X root out) (ha : out[i]? = some a) : addsN (stepN X out (out.take i)) (asksF X a) = stepN X out (out.take (i + 1)) := by
  rw [stepN_take ha]
  exact addsN_fold (stepN_ok X h.rises _).1
theorem mid_len {X : List Kn} {root : List Nd} {out : List ByteArray} {i : Nat} {a : ByteArray} (h : Under X root out) (ha : out[i]? = some a) (k : Nat) : (addsN (stepN X out (out.take i)) ((asksF X a).take k)).length ≤ (allX X root).length := by
  obtain ⟨h1, h2⟩ := stepN_ok X h.rises (out.take i)
  obtain ⟨h3, h4⟩ := addsN_ok ((asksF X a).take k) h1
  refine len_of_sub h3 (foldN_rises _) fun z hz => may_all ?_
  rcases (h4 z).1 hz with g | g
  · rcases (h2 z).1 g with g | ⟨b, hb, g⟩
    · exact h.may z g
    · exact .ask (h.may b (List.mem_of_mem_take hb)) g
  · exact .ask (h.may a (List.mem_of_getElem? ha)) ((foldN_mem _).1 (List.mem_of_mem_take g))
theorem Under.whole {X : List Kn} {root : List Nd} {out : List ByteArray} (h : Under X root out) (hl : (stepN X out out).length = out.length) : stepN X out out = reachX X root := by
  have h1 := h.done hl
  have e : out = stepN X out out := same_of_len h.rises h.step.rises (fun z hz => ((stepN_ok X h.rises out).2 z).2 (.inl hz)) (by omega)
  rw [← e]
  exact reachX_of h1
/-- How long a slice is. -/
def lenV : Value → Nat
  | .slice _ n _ => n
  | _ => 0
end Go.Proofs.YtjbjdoioallpkaaGreatDoor.Reach
/-
  Contracts of the program's New, of, Has and Len, at an index and at nil. Condition: a name of at most 1,000,000,000 bytes.
-/
namespace Go.Proofs.YtjbjdoioallpkaaGreatDoor.Index
open Go Go.RowKit Go.Lib Go.Proofs.YtjbjdoioallpkaaGreatDoor.Span Go.Proofs.YtjbjdoioallpkaaGreatDoor.Need Go.Proofs.YtjbjdoioallpkaaGreatDoor.Mani Go.Proofs.YtjbjdoioallpkaaGreatDoor.Wire Go.Proofs.YtjbjdoioallpkaaGreatDoor.Depot Go.Proofs.YtjbjdoioallpkaaGreatDoor.MapV
set_option linter.unusedVariables false
/-- What is found of a name. -/
def Found (w : World) (v : Value) (nm : ByteArray) (o : Option Kv) : Prop := (o = none ∧ v = .nilIface) ∨ ∃ k, o = some k ∧ Kept w v nm k
theorem zero_known (w : World) : (zeroValue 90).run Tryz.prog w = .ok .nilIface w := by kernel_rfl
theorem look_any {w : World} {b : Nat} {l : List Kn} (h : IdxM w b l) (nm : ByteArray) (hs : nm.size ≤ maxLen) :
    ∃ v, (Instr.lookup 86 (.map (some b)) (.string nm) false).run Tryz.prog w = .ok v w ∧ Found w v nm (atX l nm) := by
  obtain ⟨val, ⟨D, ho, ht⟩, hk⟩ := h
  obtain ⟨v, ps, hrun, hv⟩ := ho.lookup keyed Tryz.underlying86 (zero_known w) (zd := .held .nilIface) (zp := []) rfl (key_ofS nm hs)
  have e := lookA_at ht hv
  refine ⟨v, hrun, ?_⟩
  rw [lookA_nvs] at e
  cases g : atX l nm with
  | none =>
    rw [g] at e
    exact .inl ⟨rfl, e⟩
  | some k =>
    rw [g] at e
    have e2 : v = val nm := e
    exact .inr ⟨k, rfl, by rw [e2]; exact hk _ (atX_in g)⟩
theorem look_none (w : World) (nm : ByteArray) (hs : nm.size ≤ maxLen) : (Instr.lookup 86 (.map none) (.string nm) false).run Tryz.prog w = .ok .nilIface w :=
  Maps.look_nil false keyed Tryz.underlying86 (zero_known w) (key_ofS nm hs)
set_option maxHeartbeats 2000000 in
set_option maxRecDepth 100000 in
theorem new_any (w : World) : Calls Tryz.prog 20 #[] w fun e w' => e = .returned (.pointer (some ⟨w.heap.size, 0, none⟩)) ∧ Idx w' w.heap.size none [] ∧ Below w.heap.size w w' := by
  go_enter Tryz.func20, Tryz.ntmps20
  go_wp2
  go_ret
  exact ⟨rfl, ⟨Blk.new _ _ _, .inl ⟨rfl, rfl⟩⟩, (Below.refl _ _).alloc (Nat.le_refl _) _⟩
set_option maxHeartbeats 2000000 in
set_option maxRecDepth 100000 in
theorem of_any (g : Nat) (mo : Option Nat) (l : List Kn) (nm : ByteArray) (w : World) (h : Idx w g mo l) (hnm : nm.size ≤ 1000000000) :
    Calls Tryz.prog 59 #[.pointer (some ⟨g, 0, none⟩), .string nm] w fun e w' => ∃ v, e = .returned v ∧ w = w' ∧ Found w v nm (atX l nm) := by
  have hs : nm.size ≤ maxLen := by unfold maxLen; omega
  obtain ⟨v, hrun, hf⟩ : ∃ v, (Instr.lookup 86 (.map mo) (.string nm) false).run Tryz.prog w = .ok v w ∧ Found w v nm (atX l nm) := by
    rcases h.2 with ⟨rfl, rfl⟩ | ⟨b, rfl, hm⟩
    · exact ⟨_, look_none w nm hs, .inl ⟨rfl, rfl⟩⟩
    · exact look_any hm nm hs
  have hc := (h.1.cell 0).trans (show (#[Value.map mo] : Array Value)[0]? = some (.map mo) from rfl)
  go_enter Tryz.func59, Tryz.ntmps59
  go_wp2
  go_ret
  exact ⟨v, rfl, rfl, hf⟩
set_option maxHeartbeats 2000000 in
set_option maxRecDepth 100000 in
theorem of_nil (nm : ByteArray) (w : World) : Calls Tryz.prog 59 #[.pointer none, .string nm] w fun e w' => e = .returned .nilIface ∧ w = w' := by
  go_enter Tryz.func59, Tryz.ntmps59
  go_wp2
  go_ret
  exact ⟨rfl, rfl⟩
theorem neq_iface (t : TypeId) (v : Value) (w : World) : (binOp .neq 90 (.iface t v) .nilIface).run Tryz.prog w = .ok (.bool true) w := by
  have h : ∀ d : Nat, (Op.equalIn (d + 1) 90 (.iface t v) .nilIface).run Tryz.prog w = .ok false w := fun d => by simp [Op.equalIn, run_underlying Tryz.underlying90]
  simp only [binOp]
  simp [Op.equal, Op.maxDepth, h 9999]
theorem neq_nil (w : World) : (binOp .neq 90 .nilIface .nilIface).run Tryz.prog w = .ok (.bool false) w := by
  have h : ∀ d : Nat, (Op.equalIn (d + 1) 90 .nilIface .nilIface).run Tryz.prog w = .ok true w := fun d => by simp [Op.equalIn, run_underlying Tryz.underlying90]
  simp only [binOp]
  simp [Op.equal, Op.maxDepth, h 9999]
set_option maxHeartbeats 2000000 in
set_option maxRecDepth 100000 in
theorem has_any (g : Nat) (mo : Option Nat) (l : List Kn) (nm : ByteArray) (w : World) (h : Idx w g mo l) (hnm : nm.size ≤ 1000000000) :
    Calls Tryz.prog 38 #[.pointer (some ⟨g, 0, none⟩), .string nm] w fun e w' => e = .returned (.bool (atX l nm).isSome) ∧ w = w' := by
  have HO := hide (of_any g mo l nm w h hnm)
  have h1 := neq_iface
  have h2 := neq_nil
  clear h hnm
  generalize atX l nm = o at *
  go_enter Tryz.func38, Tryz.ntmps38
  go_upto_region 1 with fail
  go_wp2_with (first
    | (go_at_call 59
       refine HO.out.mono ?_
       rintro e w1 ⟨v, rfl, rfl, hf⟩
       rcases hf with ⟨rfl, rfl⟩ | ⟨k, rfl, ⟨_, A, n, c, B, rs, rfl, _⟩ | ⟨_, rfl⟩⟩))
  all_goals (try go_wp2)
  all_goals (go_ret; exact ⟨rfl, rfl⟩)
set_option maxHeartbeats 2000000 in
set_option maxRecDepth 100000 in
theorem has_nil (nm : ByteArray) (w : World) : Calls Tryz.prog 38 #[.pointer none, .string nm] w fun e w' => e = .returned (.bool false) ∧ w = w' := by
  have HO := hide (of_nil nm w)
  have h2 := neq_nil
  go_enter Tryz.func38, Tryz.ntmps38
  go_wp2_with (first
    | (go_at_call 59
       refine HO.out.mono ?_
       rintro e w1 ⟨rfl, rfl⟩))
  go_ret
  exact ⟨rfl, rfl⟩
theorem len_map {w : World} {b : Nat} {l : List Kn} (h : IdxM w b l) (ty : TypeId) : (Builtin.len_ #[86] ty #[.map (some b)]).run Tryz.prog w = .ok (.int .i64 (l.length : Int)) w := by
  obtain ⟨val, ⟨D, ho, ht⟩, hk⟩ := h
  rw [ho.len Tryz.underlying86 ty, ht.2.2.2, nvs_length]
end Go.Proofs.YtjbjdoioallpkaaGreatDoor.Index

/-
  Some texts of this claim, one behind the other: MapV. What each proves, and its condition, stands at its head.
-/
import Derived.Test.YtjbjdoioallpkaaGreatDoorZ21
import Derived.Test.YtjbjdoioallpkaaGreatDoorChecked
import Derived.Maps.OwnSet
/-
  Maps from texts to any values that a call has made, told by a list of names and values whose names rise: made, looked up, put in, counted; what the sorted keys are. No condition. Of no type of the program but the text.
-/
namespace Go.Proofs.YtjbjdoioallpkaaGreatDoor.MapV
open Go Go.RowKit Go.Lib Go.Proofs.YtjbjdoioallpkaaGreatDoor.Need Go.Proofs.YtjbjdoioallpkaaGreatDoor.Mani
set_option linter.unusedVariables false
/-- How any value reads: as itself. -/
def valElem (v : Value) : Option (DataW Value × List MemPlace) := some (.held v, [])
theorem valElem_inv {v : Value} {d : DataW Value} {ps : List MemPlace} (h : valElem v = some (d, ps)) : d = .held v ∧ ps = [] := by
  unfold valElem at h
  injection h with h
  injection h with h1 h2
  exact ⟨h1.symm, h2.symm⟩
/-- Names and values. -/
abbrev Nv := ByteArray × Value
def lookA : List Nv → ByteArray → Option Value
  | [], _ => none
  | q :: t, n => if q.1 = n then some q.2 else lookA t n
/-- A map's datum is told by names and values. -/
def Told (D : DataW Value) (l : List Nv) : Prop :=
  Maps.Tidy D ∧ (∀ nm : ByteArray, Maps.has D (.string (bytesOf nm)) = (lookA l nm).isSome) ∧ (∀ (nm : ByteArray) (v : Value), lookA l nm = some v → ∀ zd, D.atKey (.string (bytesOf nm)) zd = .held v) ∧ Maps.size D = l.length
theorem told_nil : Told (.map []) [] := ⟨Maps.tidy_empty, fun nm => rfl, fun nm v h => (by cases h), rfl⟩
theorem key_ne {a b : ByteArray} (h : a ≠ b) : (Lit.string (bytesOf a)) ≠ Lit.string (bytesOf b) := fun e => h (bytesOf_inj (by injection e))
/-- A name's value put in: what the new list must tell. -/
theorem Told.put {D : DataW Value} {l l' : List Nv} (h : Told D l) (nm : ByteArray) (v : Value) (hl : ∀ x, lookA l' x = if nm = x then some v else lookA l x) (hn : l'.length = if (lookA l nm).isSome = true then l.length else l.length + 1) :
    Told (D.put (.string (bytesOf nm)) (.held v)) l' := by
  obtain ⟨h1, h2, h3, h4⟩ := h
  refine ⟨h1.put (key_str _) _, fun x => ?_, fun x u hx zd => ?_, ?_⟩
  · rw [hl]
    by_cases e : nm = x
    · rw [if_pos e, ← e, Maps.has_put_same h1.isMap (key_str _)]; rfl
    · rw [if_neg e, Maps.has_put_other (key_ne (Ne.symm e)), h2]
  · rw [hl] at hx
    by_cases e : nm = x
    · rw [if_pos e] at hx
      injection hx with hx
      rw [← e, Maps.atKey_put_same h1.isMap (key_str _), hx]
    · rw [if_neg e] at hx
      rw [Maps.atKey_put_other (key_ne (Ne.symm e))]
      exact h3 x u hx zd
  · rw [Maps.size_put h1, h2, hn, h4]
/-- A map of the call's own. -/
def OwnV (w : World) (b n : Nat) (l : List Nv) : Prop := ∃ D, w.ownsMap Tryz.prog 9 valElem b n D ∧ Told D l
section
variable {w w' : World} {b n : Nat} {l l' : List Nv}
theorem OwnV.made (w : World) : OwnV (w.alloc (.map #[] 0)) w.heap.size 0 [] := ⟨_, World.ownsMap_made w _ _ _, told_nil⟩
theorem OwnV.lt (h : OwnV w b n l) : b < w.heap.size := by obtain ⟨D, h1, _⟩ := h; exact h1.lt
theorem OwnV.kept {row : Option Nat} (h : OwnV w b n l) (hg : w.grownBy w' row) (hne : some b ≠ row) : OwnV w' b n l := by
  obtain ⟨D, h1, h2⟩ := h
  exact ⟨D, h1.kept hg hne, h2⟩
theorem OwnV.below (h : OwnV w b n l) (hb : Below w.heap.size w w') : OwnV w' b n l := h.kept (only_of_below hb none) (by simp)
theorem OwnV.setCell (h : OwnV w b n l) {a : Addr} (ha : b ≠ a.block) (u : Value) : OwnV (w.setCell a u) b n l := by
  obtain ⟨D, h1, h2⟩ := h
  exact ⟨D, h1.setCell ha u, h2⟩
theorem keyed : Maps.Keyed Tryz.prog 9 := Maps.string_keyed Tryz.underlying9
theorem key_ofS (x : ByteArray) (h : x.size ≤ maxLen) : keyOf Tryz.prog 9 (.string x) = some (.string (bytesOf x)) := by
  have hu := Tryz.underlying9
  simp [keyOf, hu, mapKey, bytesOf]
  exact h
theorem lookA_at {D : DataW Value} (h : Told D l) {nm : ByteArray} {z v : Value} {ps : List MemPlace} (hv : valElem v = some (D.atKey (.string (bytesOf nm)) (.held z), ps)) : v = (lookA l nm).getD z := by
  obtain ⟨h1, _⟩ := valElem_inv hv
  cases g : lookA l nm with
  | none =>
    have h2 := h.2.1 nm
    rw [g] at h2
    rw [Maps.atKey_of_not_has h2] at h1
    injection h1 with h1
    exact h1.symm
  | some u =>
    rw [h.2.2.1 nm u g] at h1
    injection h1 with h1
    exact h1.symm
end
/-! At the operation, for the walk. -/
section
variable (w : World) {ops : Array Oper} {rest : List Oper} {o : Oper} {a : Act} {Q : Exit → Act → World → Prop}
/-- 'v, ok := m[k]'. -/
theorem wpList_lookV_ok (hg : o.guard = none) (m x : Operand) (t e : TypeId) (hop : o.op = Op.lookup t m x true) (ht : Tryz.prog.underlying t = some (.map 9 e)) {z : Value} (hz : (zeroValue e).run Tryz.prog w = .ok z w)
    (b n : Nat) (l : List Nv) (hm : a.eval m = .map (some b)) (hown : OwnV w b n l) (nm : ByteArray) (hx : a.eval x = .string nm) (hs : nm.size ≤ maxLen)
    (hK : wpList Tryz.prog ops Q rest (a.put o.dst (.tuple #[(lookA l nm).getD z, .bool (lookA l nm).isSome])) w) :
    wpList Tryz.prog ops Q (o :: rest) a w := by
  obtain ⟨D, h1, h2⟩ := hown
  refine wpList_lookup_own_ok w hg m x t hop 9 e keyed ht valElem hz (.held z) [] rfl b n D hm h1 (.string nm) (.string (bytesOf nm)) hx (key_ofS nm hs) (fun v ps hv => ?_)
  rw [lookA_at h2 hv, h2.2.1 nm]
  exact hK
/-- 'm[k] = v'. -/
theorem wpList_putV (hg : o.guard = none) (m x v : Operand) (t e : TypeId) (hop : o.op = Op.mapUpdate t m x v) (ht : Tryz.prog.underlying t = some (.map 9 e))
    (b n : Nat) (l l' : List Nv) (hm : a.eval m = .map (some b)) (hown : OwnV w b n l) (hn : n < maxLen) (nm : ByteArray) (val : Value) (hx : a.eval x = .string nm) (hv : a.eval v = val) (hs : nm.size ≤ maxLen)
    (hl : ∀ y, lookA l' y = if nm = y then some val else lookA l y) (hc : l'.length = if (lookA l nm).isSome = true then l.length else l.length + 1)
    (hK : ∀ w', OwnV w' b (n + 1) l' → w.grownBy w' (some b) → wpList Tryz.prog ops Q rest (a.put o.dst undef) w') :
    wpList Tryz.prog ops Q (o :: rest) a w := by
  obtain ⟨D, h1, h2⟩ := hown
  refine wpList_mapUpdate_in w hg m x v t hop 9 e keyed ht valElem b n D hm h1 hn (.string nm) val (.string (bytesOf nm)) hx hv (key_ofS nm hs) (.held val) [] rfl (fun w' r1 r2 => ?_)
  exact hK w' ⟨_, r1, h2.put nm val hl hc⟩ r2.grown
/-- 'len(m)'. -/
theorem wpList_lenV (hg : o.guard = none) (m : Operand) (t e : TypeId) (hop : o.op = Op.call { callee := Callee.builtin Builtin.len, args := #[m], argTypes := #[t] }) (ht : Tryz.prog.underlying t = some (.map 9 e))
    (b n : Nat) (l : List Nv) (hm : a.eval m = .map (some b)) (hown : OwnV w b n l) (hK : wpList Tryz.prog ops Q rest (a.put o.dst (.int .i64 (l.length : Int))) w) :
    wpList Tryz.prog ops Q (o :: rest) a w := by
  obtain ⟨D, h1, h2⟩ := hown
  refine wpList_len_own w hg m t hop 9 e ht valElem b n D hm h1 ?_
  rw [h2.2.2.2]
  exact hK
end
/-- What the sorted keys of a map are, where the names of its list rise. -/
theorem sorted_v {w : World} {b n : Nat} {D : DataW Value} {l : List Nv} (hown : w.ownsMap Tryz.prog 9 valElem b n D) (ht : Told D l) (hr : (l.map Prod.fst).Pairwise fun x y => nlt x y = true) {ss : List (List UInt8)} (hp : ss.Perm (strKeys D)) :
    ss.mergeSort (fun x y => decide (x ≤ y)) = (l.map Prod.fst).map bytesOf := by
  have hlt : ((l.map Prod.fst).map bytesOf).Pairwise (fun x y => x < y) := List.pairwise_map.2 (hr.imp fun h => bytes_lt h)
  have look : ∀ nm, (lookA l nm).isSome = true ↔ nm ∈ l.map Prod.fst := by
    intro nm
    clear hr hlt ht hp
    induction l with
    | nil => simp [lookA]
    | cons q t ih =>
      rw [lookA]
      by_cases e : q.1 = nm
      · simp [e]
      · rw [if_neg e, ih]
        simp only [List.map_cons, List.mem_cons]
        constructor
        · exact fun h => .inr h
        · rintro (h | h)
          · exact absurd h.symm e
          · exact h
  have hC : Collected D (fun _ => false) ((l.map Prod.fst).map bytesOf) := ⟨hlt.imp fun {a b} h e => by rw [e] at h; exact List.lt_irrefl _ h, fun x => by
    have e : bytesOf (⟨x.toArray⟩ : ByteArray) = x := by simp [bytesOf]
    have h2 := ht.2.1 ⟨x.toArray⟩
    rw [e] at h2
    rw [h2, look, List.mem_map]
    constructor
    · rintro ⟨y, hy, hyx⟩
      refine ⟨?_, rfl⟩
      rw [show (⟨x.toArray⟩ : ByteArray) = y from bytesOf_inj (by rw [e, hyx])]
      exact hy
    · rintro ⟨hy, _⟩
      exact ⟨_, hy, e⟩⟩
  have hP := hC.perm hown keyed Tryz.underlying9 fun _ => rfl
  have h1 := mergeSort_of_perm (hp.trans hP.symm)
  refine h1.trans ?_
  refine List.mergeSort_of_pairwise (hlt.imp fun h => ?_)
  simp only [leB, decide_eq_true_eq]
  exact List.le_of_lt h
end Go.Proofs.YtjbjdoioallpkaaGreatDoor.MapV

/-
  Some texts of this claim, one behind the other: MapV, MapF. What each proves, and its condition, stands at its head.
-/
import Derived.Test.YtllogmokadcfmaaGreatZB18
import Derived.Test.YtllogmokadcfmaaGreatChecked
import Derived.Maps.OwnSet
/-
  Maps from texts to any values that a call has made, told by a list of names and values whose names rise: made, looked up, put in, counted; what the sorted keys are. No condition. Of no type of the program but the text.
-/
namespace Go.Proofs.YtllogmokadcfmaaGreat.MapV
open Go Go.RowKit Go.Lib Go.Proofs.YtllogmokadcfmaaGreat.Need Go.Proofs.YtllogmokadcfmaaGreat.Mani
set_option linter.unusedVariables false
def valElem (v : Value) : Option (DataW Value × List MemPlace) := some (.held v, [])
theorem valElem_inv {v : Value} {d : DataW Value} {ps : List MemPlace} (h : valElem v = some (d, ps)) : d = .held v ∧ ps = [] := by
  unfold valElem at h
  injection h with h
  injection h with h1 h2
  exact ⟨h1.symm, h2.symm⟩
abbrev Nv := ByteArray × Value
def lookA : List Nv → ByteArray → Option Value
  | [], _ => none
  | q :: t, n => if q.1 = n then some q.2 else lookA t n
def Told (D : DataW Value) (l : List Nv) : Prop :=
  Maps.Tidy D ∧ (∀ nm : ByteArray, Maps.has D (.string (bytesOf nm)) = (lookA l nm).isSome) ∧ (∀ (nm : ByteArray) (v : Value), lookA l nm = some v → ∀ zd, D.atKey (.string (bytesOf nm)) zd = .held v) ∧ Maps.size D = l.length
theorem key_ne {a b : ByteArray} (h : a ≠ b) : (Lit.string (bytesOf a)) ≠ Lit.string (bytesOf b) := fun e => h (bytesOf_inj (by injection e))
def OwnV (w : World) (b n : Nat) (l : List Nv) : Prop := ∃ D, w.ownsMap Tryz.prog 9 valElem b n D ∧ Told D l
section
variable {w w' : World} {b n : Nat} {l l' : List Nv}
theorem OwnV.setCell (h : OwnV w b n l) {a : Addr} (ha : b ≠ a.block) (u : Value) : OwnV (w.setCell a u) b n l := by
  obtain ⟨D, h1, h2⟩ := h
  exact ⟨D, h1.setCell ha u, h2⟩
theorem keyed : Maps.Keyed Tryz.prog 9 := Maps.string_keyed Tryz.underlying9
theorem key_ofS (x : ByteArray) (h : x.size ≤ maxLen) : keyOf Tryz.prog 9 (.string x) = some (.string (bytesOf x)) := by
  have hu := Tryz.underlying9
  simp [keyOf, hu, mapKey, bytesOf]
  exact h
end
/-! At the operation, for the walk. -/
section
variable (w : World) {ops : Array Oper} {rest : List Oper} {o : Oper} {a : Act} {Q : Exit → Act → World → Prop}
end
end Go.Proofs.YtllogmokadcfmaaGreat.MapV
/-
  Maps from texts to any values that a call has made, told by a function: made, looked up, put in, taken out, each as an equation on the operation's run. No condition. Of no type of the program but the text.
-/
namespace Go.Proofs.YtllogmokadcfmaaGreat.MapV
open Go Go.RowKit Go.Lib Go.Proofs.YtllogmokadcfmaaGreat.Need Go.Proofs.YtllogmokadcfmaaGreat.Mani
set_option linter.unusedVariables false
def ToldF (D : DataW Value) (f : ByteArray → Option Value) : Prop :=
  Maps.Tidy D ∧ (∀ nm : ByteArray, Maps.has D (.string (bytesOf nm)) = (f nm).isSome) ∧ ∀ (nm : ByteArray) (v : Value), f nm = some v → ∀ zd, D.atKey (.string (bytesOf nm)) zd = .held v
theorem toldF_nil : ToldF (.map []) (fun _ => none) := ⟨Maps.tidy_empty, fun nm => rfl, fun nm v h => (by cases h)⟩
section
variable {D : DataW Value} {f g : ByteArray → Option Value}
theorem ToldF.put (h : ToldF D f) (nm : ByteArray) (v : Value) : ToldF (D.put (.string (bytesOf nm)) (.held v)) (fun x => if nm = x then some v else f x) := by
  obtain ⟨h1, h2, h3⟩ := h
  refine ⟨h1.put (key_str _) _, fun x => ?_, fun x u hx zd => ?_⟩
  · by_cases e : nm = x
    · simp only [if_pos e]
      rw [← e, Maps.has_put_same h1.isMap (key_str _)]; rfl
    · simp only [if_neg e]
      rw [Maps.has_put_other (key_ne (Ne.symm e)), h2]
  · by_cases e : nm = x
    · simp only [if_pos e] at hx
      injection hx with hx
      rw [← e, Maps.atKey_put_same h1.isMap (key_str _), hx]
    · simp only [if_neg e] at hx
      rw [Maps.atKey_put_other (key_ne (Ne.symm e))]
      exact h3 x u hx zd
theorem ToldF.del (h : ToldF D f) (nm : ByteArray) : ToldF (D.del (.string (bytesOf nm))) (fun x => if nm = x then none else f x) := by
  obtain ⟨h1, h2, h3⟩ := h
  refine ⟨h1.del _, fun x => ?_, fun x u hx zd => ?_⟩
  · by_cases e : nm = x
    · simp only [if_pos e]
      rw [← e, Maps.has_del_same]; rfl
    · simp only [if_neg e]
      rw [Maps.has_del_other (key_ne (Ne.symm e)), h2]
  · by_cases e : nm = x
    · simp only [if_pos e] at hx
      cases hx
    · simp only [if_neg e] at hx
      rw [Maps.atKey_del_other (key_ne (Ne.symm e))]
      exact h3 x u hx zd
theorem ToldF.at_ (h : ToldF D f) {nm : ByteArray} {z v : Value} {ps : List MemPlace} (hv : valElem v = some (D.atKey (.string (bytesOf nm)) (.held z), ps)) : v = (f nm).getD z := by
  obtain ⟨h1, _⟩ := valElem_inv hv
  cases g : f nm with
  | none =>
    have h2 := h.2.1 nm
    rw [g] at h2
    rw [Maps.atKey_of_not_has h2] at h1
    injection h1 with h1
    exact h1.symm
  | some u =>
    rw [h.2.2 nm u g] at h1
    injection h1 with h1
    exact h1.symm
end
def OwnTold (w : World) (b n : Nat) (f : ByteArray → Option Value) : Prop := ∃ D, w.ownsMap Tryz.prog 9 valElem b n D ∧ ToldF D f
section
variable {w w' : World} {b n m : Nat} {f g : ByteArray → Option Value}
theorem OwnTold.made (w : World) : OwnTold (w.alloc (.map #[] 0)) w.heap.size 0 (fun _ => none) := ⟨_, World.ownsMap_made w _ _ _, toldF_nil⟩
theorem OwnTold.congr (h : OwnTold w b n f) (e : ∀ a, f a = g a) : OwnTold w b n g := by
  rw [← (funext e : f = g)]; exact h
theorem OwnTold.mono (h : OwnTold w b n f) (e : n ≤ m) : OwnTold w b m f := by
  obtain ⟨D, ⟨es, clock, h1, h2, h3, h4⟩, h5⟩ := h
  exact ⟨D, ⟨es, clock, h1, h2, Nat.le_trans h3 e, h4⟩, h5⟩
theorem OwnTold.lt (h : OwnTold w b n f) : b < w.heap.size := by obtain ⟨D, h1, _⟩ := h; exact h1.lt
theorem OwnTold.kept {row : Option Nat} (h : OwnTold w b n f) (hg : w.grownBy w' row) (hne : some b ≠ row) : OwnTold w' b n f := by
  obtain ⟨D, h1, h2⟩ := h
  exact ⟨D, h1.kept hg hne, h2⟩
theorem OwnTold.below (h : OwnTold w b n f) (hb : Below w.heap.size w w') : OwnTold w' b n f := h.kept (only_of_below hb none) (by simp)
theorem OwnTold.setCell (h : OwnTold w b n f) {a : Addr} (ha : b ≠ a.block) (u : Value) : OwnTold (w.setCell a u) b n f := by
  obtain ⟨D, h1, h2⟩ := h
  exact ⟨D, h1.setCell ha u, h2⟩
theorem OwnTold.block (h : OwnTold w b n f) : ∃ es clock, w.heap[b]? = some (.map es clock) := by
  obtain ⟨D, ⟨es, clock, h1, _⟩, _⟩ := h
  exact ⟨es, clock, h1⟩
theorem OwnTold.look (h : OwnTold w b n f) {t e : TypeId} (ht : Tryz.prog.underlying t = some (.map 9 e)) {z : Value} (hz : (zeroValue e).run Tryz.prog w = .ok z w) {nm : ByteArray} (hs : nm.size ≤ maxLen) :
    (Instr.lookup t (.map (some b)) (.string nm) false).run Tryz.prog w = .ok ((f nm).getD z) w := by
  obtain ⟨D, h1, h2⟩ := h
  obtain ⟨v, ps, hr, hv⟩ := h1.lookup keyed ht hz (zd := .held z) (zp := []) rfl (key_ofS nm hs)
  rw [← h2.at_ hv]
  exact hr
theorem OwnTold.put (h : OwnTold w b n f) {t e : TypeId} (ht : Tryz.prog.underlying t = some (.map 9 e)) (hn : n < maxLen) {nm : ByteArray} (hs : nm.size ≤ maxLen) (v : Value) :
    ∃ w', (Instr.mapUpdate t (.map (some b)) (.string nm) v).run Tryz.prog w = .ok () w' ∧ OwnTold w' b (n + 1) (fun x => if nm = x then some v else f x) ∧ w.mapTurned w' b := by
  obtain ⟨D, h1, h2⟩ := h
  obtain ⟨w', r1, r2, r3⟩ := h1.store keyed ht hn (key_ofS nm hs) (val := v) (d := .held v) (ps := []) rfl
  exact ⟨w', r1, ⟨_, r2, h2.put nm v⟩, r3⟩
theorem OwnTold.sharp (h : OwnTold w b n f) : ∃ D, w.ownsMap Tryz.prog 9 valElem b (Maps.size D) D ∧ ToldF D f ∧ Maps.size D ≤ n := by
  obtain ⟨D, h1, h2⟩ := h
  have h3 := h1.size_le
  obtain ⟨es, clock, e1, e2, e3, rfl⟩ := h1
  exact ⟨_, ⟨es, clock, e1, e2, by simp [Maps.size, length_sorted], rfl⟩, h2, h3⟩
theorem OwnTold.put_old (h : OwnTold w b n f) {t e : TypeId} (ht : Tryz.prog.underlying t = some (.map 9 e)) (hn : n < maxLen) {nm : ByteArray} (hs : nm.size ≤ maxLen) (v : Value) (ho : (f nm).isSome = true) :
    ∃ w', (Instr.mapUpdate t (.map (some b)) (.string nm) v).run Tryz.prog w = .ok () w' ∧ OwnTold w' b n (fun x => if nm = x then some v else f x) ∧ w.mapTurned w' b := by
  obtain ⟨D, h1, h2, h3⟩ := h.sharp
  obtain ⟨w', r1, r2, r3⟩ := h1.store keyed ht (by omega) (key_ofS nm hs) (val := v) (d := .held v) (ps := []) rfl
  have h4 : OwnTold w' b (Maps.size D + 1) (fun x => if nm = x then some v else f x) := ⟨_, r2, h2.put nm v⟩
  refine ⟨w', r1, ?_, r3⟩
  obtain ⟨es, clock, e1, e2, e3, e4⟩ := r2
  have e5 := Maps.size_put h2.1 (k := .string (bytesOf nm)) (.held v)
  rw [h2.2.1 nm, ho, if_pos rfl, e4] at e5
  refine ⟨_, ⟨es, clock, e1, e2, ?_, e4⟩, h2.put nm v⟩
  have e6 : Maps.size (DataW.map ((es.toList.map (WideElems.rg Tryz.prog 9 (valElem))).foldr DataW.insert [])) = es.size := by simp [Maps.size, length_sorted]
  omega
end
end Go.Proofs.YtllogmokadcfmaaGreat.MapV

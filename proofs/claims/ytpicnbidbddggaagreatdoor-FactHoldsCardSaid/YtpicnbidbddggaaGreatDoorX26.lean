/-
  Some texts of this claim, one behind the other: ManiNamesM, MapV, MapF. What each proves, and its condition, stands at its head.
-/
import Derived.Test.YtpicnbidbddggaaGreatDoorX23
import Derived.Sort.KeysCollected
import Derived.Test.YtpicnbidbddggaaGreatDoorChecked
import Derived.Maps.OwnSet
/-
  Plain mathematics of names: a name put into names that rise, once; the names that releases need. No program.
-/
namespace Go.Proofs.YtpicnbidbddggaaGreatDoor.Mani
open Go Go.RowKit Go.Lib Go.Proofs.YtpicnbidbddggaaGreatDoor.Span Go.Proofs.YtpicnbidbddggaaGreatDoor.Need
set_option linter.unusedVariables false
def addF (x : ByteArray) : Bool → List ByteArray → List ByteArray
  | i, [] => if i = true then [] else [x]
  | i, y :: t => if i = true then y :: addF x i t else if nlt x y = true then x :: y :: addF x true t else if x = y then x :: addF x true t else y :: addF x i t
theorem addF_true (x : ByteArray) (l : List ByteArray) : addF x true l = l := by
  induction l with
  | nil => rfl
  | cons y t ih => rw [addF, if_pos rfl, ih]
theorem addF_lt {x y : ByteArray} {t : List ByteArray} (h : nlt x y = true) : addF x false (y :: t) = [x, y] ++ addF x true t := by rw [addF, if_neg (by simp), if_pos h]; rfl
theorem addF_eq {x y : ByteArray} {t : List ByteArray} (h : x = y) : addF x false (y :: t) = [x] ++ addF x true t := by rw [addF, if_neg (by simp), if_neg (by rw [h, nlt_self]; simp), if_pos h]; rfl
theorem addF_gt {x y : ByteArray} {t : List ByteArray} (h : nlt y x = true) : addF x false (y :: t) = [y] ++ addF x false t := by rw [addF, if_neg (by simp), if_neg (by rw [nlt_asymm h]; simp), if_neg (fun e => by rw [e, nlt_self] at h; cases h)]; rfl
theorem addF_len (x : ByteArray) (l : List ByteArray) : (addF x false l).length ≤ l.length + 1 := by
  induction l with
  | nil => simp [addF]
  | cons y t ih =>
    rcases tri x y with ⟨h, _⟩ | ⟨_, _, h⟩ | ⟨_, h, _⟩
    · rw [addF_lt h, addF_true]; simp
    · rw [addF_eq (of_decide_eq_true (by rw [← eq_names]; exact h)), addF_true]; simp
    · rw [addF_gt h]; simp; omega
def RisesN (l : List ByteArray) : Prop := l.Pairwise fun x y => nlt x y = true
theorem addF_mem (x : ByteArray) (l : List ByteArray) {z : ByteArray} : z ∈ addF x false l ↔ z = x ∨ z ∈ l := by
  induction l with
  | nil => simp [addF]
  | cons y t ih =>
    rcases tri x y with ⟨h, _⟩ | ⟨_, _, h⟩ | ⟨_, h, _⟩
    · rw [addF_lt h, addF_true]; simp
    · have e : x = y := of_decide_eq_true (by rw [← eq_names]; exact h)
      rw [addF_eq e, addF_true]
      subst e
      simp
    · rw [addF_gt h, List.singleton_append, List.mem_cons, List.mem_cons, ih]
      constructor
      · rintro (h | h | h)
        · exact .inr (.inl h)
        · exact .inl h
        · exact .inr (.inr h)
      · rintro (h | h | h)
        · exact .inr (.inl h)
        · exact .inl h
        · exact .inr (.inr h)
theorem addF_rises (x : ByteArray) {l : List ByteArray} (hl : RisesN l) : RisesN (addF x false l) := by
  induction l with
  | nil => exact List.pairwise_singleton _ _
  | cons y t ih =>
    obtain ⟨h1, h2⟩ := List.pairwise_cons.1 hl
    rcases tri x y with ⟨h, _⟩ | ⟨_, _, h⟩ | ⟨_, h, _⟩
    · rw [addF_lt h, addF_true]
      refine List.pairwise_cons.2 ⟨fun z hz => ?_, hl⟩
      rcases List.mem_cons.1 hz with rfl | hz
      · exact h
      · exact nlt_trans h (h1 z hz)
    · rw [addF_eq (of_decide_eq_true (by rw [← eq_names]; exact h)), addF_true]
      have e : x = y := of_decide_eq_true (by rw [← eq_names]; exact h)
      subst e
      exact hl
    · rw [addF_gt h]
      refine List.pairwise_cons.2 ⟨fun z hz => ?_, ih h2⟩
      rcases (addF_mem x t).1 hz with rfl | hz
      · exact h
      · exact h1 z hz
def foldN (acc : List ByteArray) : List ByteArray := acc.foldl (fun o x => addF x false o) []
theorem fold_len (acc : List ByteArray) : ∀ (o : List ByteArray), (acc.foldl (fun o x => addF x false o) o).length ≤ o.length + acc.length := by
  induction acc with
  | nil => intro o; simp
  | cons x t ih =>
    intro o
    have h1 := ih (addF x false o)
    have h2 := addF_len x o
    simp only [List.foldl_cons, List.length_cons]
    omega
theorem fold_ok (acc : List ByteArray) : ∀ (o : List ByteArray), RisesN o → RisesN (acc.foldl (fun o x => addF x false o) o) ∧ ∀ z, z ∈ acc.foldl (fun o x => addF x false o) o ↔ z ∈ o ∨ z ∈ acc := by
  induction acc with
  | nil => intro o h; exact ⟨h, fun z => by simp⟩
  | cons x t ih =>
    intro o h
    obtain ⟨h1, h2⟩ := ih (addF x false o) (addF_rises x h)
    refine ⟨h1, fun z => ?_⟩
    rw [List.foldl_cons, h2, addF_mem, List.mem_cons]
    constructor
    · rintro ((h | h) | h)
      · exact .inr (.inl h)
      · exact .inl h
      · exact .inr (.inr h)
    · rintro (h | h | h)
      · exact .inl (.inr h)
      · exact .inl (.inl h)
      · exact .inr h
theorem foldN_rises (acc : List ByteArray) : RisesN (foldN acc) := (fold_ok acc [] List.Pairwise.nil).1
theorem foldN_mem (acc : List ByteArray) {z : ByteArray} : z ∈ foldN acc ↔ z ∈ acc := by
  have := (fold_ok acc [] List.Pairwise.nil).2 z
  simpa [foldN] using this
def namesS (s : List Nd) : List ByteArray := s.map Prod.fst
def allN (l : List Rl) : List ByteArray := l.flatMap fun q => namesS q.2
theorem allN_len {l : List Rl} (h : ∀ q ∈ l, q.2.length ≤ 40) : (allN l).length ≤ 40 * l.length := by
  induction l with
  | nil => simp [allN]
  | cons q t ih =>
    have h1 := h q (by simp)
    have h2 := ih fun q hq => h q (by simp [hq])
    have e : allN (q :: t) = namesS q.2 ++ allN t := by simp [allN]
    rw [e, List.length_append, List.length_cons]
    unfold namesS
    rw [List.length_map]
    omega
def bytesOf (x : ByteArray) : List UInt8 := x.data.toList
theorem bytesOf_inj {x y : ByteArray} (h : bytesOf x = bytesOf y) : x = y := by
  unfold bytesOf at h
  exact ByteArray.ext (Array.toList_inj.1 h)
theorem bytes_lt {x y : ByteArray} (h : nlt x y = true) : bytesOf x < bytesOf y := by
  have := nlt_iff.1 h
  rw [Lib.toList_data, Lib.toList_data] at this
  exact this
def setN (acc : List ByteArray) : DataW Unit := Maps.setOf (.agg []) (acc.map fun x => Lit.string (bytesOf x))
theorem setN_snoc (acc : List ByteArray) (x : ByteArray) : setN (acc ++ [x]) = (setN acc).put (.string (bytesOf x)) (.agg []) := by
  unfold setN
  rw [List.map_append, List.map_cons, List.map_nil, Maps.setOf_snoc]
theorem key_str (x : List UInt8) : WideAt.IsKeyLit (.string x) := by first | exact trivial | simp [WideAt.IsKeyLit] | constructor
theorem has_setN (acc : List ByteArray) (x : List UInt8) : Maps.has (setN acc) (.string x) = true ↔ ∃ y ∈ acc, bytesOf y = x := by
  unfold setN
  rw [Maps.has_setOf _ _ _ (fun k hk => by obtain ⟨y, _, rfl⟩ := List.mem_map.1 hk; exact key_str _), List.any_eq_true]
  constructor
  · rintro ⟨k, hk, hs⟩
    obtain ⟨y, hy, rfl⟩ := List.mem_map.1 hk
    exact ⟨y, hy, by simpa [Lit.sameKey] using hs⟩
  · rintro ⟨y, hy, rfl⟩
    exact ⟨_, List.mem_map.2 ⟨y, hy, rfl⟩, by simp [Lit.sameKey]⟩
end Go.Proofs.YtpicnbidbddggaaGreatDoor.Mani
/-
  Maps from texts to any values that a call has made, told by a list of names and values whose names rise: made, looked up, put in, counted; what the sorted keys are. No condition. Of no type of the program but the text.
-/
namespace Go.Proofs.YtpicnbidbddggaaGreatDoor.MapV
open Go Go.RowKit Go.Lib Go.Proofs.YtpicnbidbddggaaGreatDoor.Need Go.Proofs.YtpicnbidbddggaaGreatDoor.Mani
set_option linter.unusedVariables false
def valElem (v : Value) : Option (DataW Value × List MemPlace) := some (.held v, [])
theorem valElem_inv {v : Value} {d : DataW Value} {ps : List MemPlace} (h : valElem v = some (d, ps)) : d = .held v ∧ ps = [] := by
  unfold valElem at h
  injection h with h
  injection h with h1 h2
  exact ⟨h1.symm, h2.symm⟩
abbrev Nv := ByteArray × Value
def lookA : List Nv → ByteArray → Option Value
  | [], _ => none
  | q :: t, n => if q.1 = n then some q.2 else lookA t n
def Told (D : DataW Value) (l : List Nv) : Prop :=
  Maps.Tidy D ∧ (∀ nm : ByteArray, Maps.has D (.string (bytesOf nm)) = (lookA l nm).isSome) ∧ (∀ (nm : ByteArray) (v : Value), lookA l nm = some v → ∀ zd, D.atKey (.string (bytesOf nm)) zd = .held v) ∧ Maps.size D = l.length
theorem told_nil : Told (.map []) [] := ⟨Maps.tidy_empty, fun nm => rfl, fun nm v h => (by cases h), rfl⟩
theorem key_ne {a b : ByteArray} (h : a ≠ b) : (Lit.string (bytesOf a)) ≠ Lit.string (bytesOf b) := fun e => h (bytesOf_inj (by injection e))
theorem Told.put {D : DataW Value} {l l' : List Nv} (h : Told D l) (nm : ByteArray) (v : Value) (hl : ∀ x, lookA l' x = if nm = x then some v else lookA l x) (hn : l'.length = if (lookA l nm).isSome = true then l.length else l.length + 1) :
    Told (D.put (.string (bytesOf nm)) (.held v)) l' := by
  obtain ⟨h1, h2, h3, h4⟩ := h
  refine ⟨h1.put (key_str _) _, fun x => ?_, fun x u hx zd => ?_, ?_⟩
  · rw [hl]
    by_cases e : nm = x
    · rw [if_pos e, ← e, Maps.has_put_same h1.isMap (key_str _)]; rfl
    · rw [if_neg e, Maps.has_put_other (key_ne (Ne.symm e)), h2]
  · rw [hl] at hx
    by_cases e : nm = x
    · rw [if_pos e] at hx
      injection hx with hx
      rw [← e, Maps.atKey_put_same h1.isMap (key_str _), hx]
    · rw [if_neg e] at hx
      rw [Maps.atKey_put_other (key_ne (Ne.symm e))]
      exact h3 x u hx zd
  · rw [Maps.size_put h1, h2, hn, h4]
def OwnV (w : World) (b n : Nat) (l : List Nv) : Prop := ∃ D, w.ownsMap Tryz.prog 9 valElem b n D ∧ Told D l
section
variable {w w' : World} {b n : Nat} {l l' : List Nv}
theorem OwnV.made (w : World) : OwnV (w.alloc (.map #[] 0)) w.heap.size 0 [] := ⟨_, World.ownsMap_made w _ _ _, told_nil⟩
theorem OwnV.lt (h : OwnV w b n l) : b < w.heap.size := by obtain ⟨D, h1, _⟩ := h; exact h1.lt
theorem OwnV.kept {row : Option Nat} (h : OwnV w b n l) (hg : w.grownBy w' row) (hne : some b ≠ row) : OwnV w' b n l := by
  obtain ⟨D, h1, h2⟩ := h
  exact ⟨D, h1.kept hg hne, h2⟩
theorem OwnV.below (h : OwnV w b n l) (hb : Below w.heap.size w w') : OwnV w' b n l := h.kept (only_of_below hb none) (by simp)
theorem OwnV.setCell (h : OwnV w b n l) {a : Addr} (ha : b ≠ a.block) (u : Value) : OwnV (w.setCell a u) b n l := by
  obtain ⟨D, h1, h2⟩ := h
  exact ⟨D, h1.setCell ha u, h2⟩
theorem keyed : Maps.Keyed Tryz.prog 9 := Maps.string_keyed Tryz.underlying9
theorem key_ofS (x : ByteArray) (h : x.size ≤ maxLen) : keyOf Tryz.prog 9 (.string x) = some (.string (bytesOf x)) := by
  have hu := Tryz.underlying9
  simp [keyOf, hu, mapKey, bytesOf]
  exact h
theorem lookA_at {D : DataW Value} (h : Told D l) {nm : ByteArray} {z v : Value} {ps : List MemPlace} (hv : valElem v = some (D.atKey (.string (bytesOf nm)) (.held z), ps)) : v = (lookA l nm).getD z := by
  obtain ⟨h1, _⟩ := valElem_inv hv
  cases g : lookA l nm with
  | none =>
    have h2 := h.2.1 nm
    rw [g] at h2
    rw [Maps.atKey_of_not_has h2] at h1
    injection h1 with h1
    exact h1.symm
  | some u =>
    rw [h.2.2.1 nm u g] at h1
    injection h1 with h1
    exact h1.symm
end
/-! At the operation, for the walk. -/
section
variable (w : World) {ops : Array Oper} {rest : List Oper} {o : Oper} {a : Act} {Q : Exit → Act → World → Prop}
end
theorem sorted_v {w : World} {b n : Nat} {D : DataW Value} {l : List Nv} (hown : w.ownsMap Tryz.prog 9 valElem b n D) (ht : Told D l) (hr : (l.map Prod.fst).Pairwise fun x y => nlt x y = true) {ss : List (List UInt8)} (hp : ss.Perm (strKeys D)) :
    ss.mergeSort (fun x y => decide (x ≤ y)) = (l.map Prod.fst).map bytesOf := by
  have hlt : ((l.map Prod.fst).map bytesOf).Pairwise (fun x y => x < y) := List.pairwise_map.2 (hr.imp fun h => bytes_lt h)
  have look : ∀ nm, (lookA l nm).isSome = true ↔ nm ∈ l.map Prod.fst := by
    intro nm
    clear hr hlt ht hp
    induction l with
    | nil => simp [lookA]
    | cons q t ih =>
      rw [lookA]
      by_cases e : q.1 = nm
      · simp [e]
      · rw [if_neg e, ih]
        simp only [List.map_cons, List.mem_cons]
        constructor
        · exact fun h => .inr h
        · rintro (h | h)
          · exact absurd h.symm e
          · exact h
  have hC : Collected D (fun _ => false) ((l.map Prod.fst).map bytesOf) := ⟨hlt.imp fun {a b} h e => by rw [e] at h; exact List.lt_irrefl _ h, fun x => by
    have e : bytesOf (⟨x.toArray⟩ : ByteArray) = x := by simp [bytesOf]
    have h2 := ht.2.1 ⟨x.toArray⟩
    rw [e] at h2
    rw [h2, look, List.mem_map]
    constructor
    · rintro ⟨y, hy, hyx⟩
      refine ⟨?_, rfl⟩
      rw [show (⟨x.toArray⟩ : ByteArray) = y from bytesOf_inj (by rw [e, hyx])]
      exact hy
    · rintro ⟨hy, _⟩
      exact ⟨_, hy, e⟩⟩
  have hP := hC.perm hown keyed Tryz.underlying9 fun _ => rfl
  have h1 := mergeSort_of_perm (hp.trans hP.symm)
  refine h1.trans ?_
  refine List.mergeSort_of_pairwise (hlt.imp fun h => ?_)
  simp only [leB, decide_eq_true_eq]
  exact List.le_of_lt h
end Go.Proofs.YtpicnbidbddggaaGreatDoor.MapV
/-
  Maps from texts to any values that a call has made, told by a function: made, looked up, put in, taken out, each as an equation on the operation's run. No condition. Of no type of the program but the text.
-/
namespace Go.Proofs.YtpicnbidbddggaaGreatDoor.MapV
open Go Go.RowKit Go.Lib Go.Proofs.YtpicnbidbddggaaGreatDoor.Need Go.Proofs.YtpicnbidbddggaaGreatDoor.Mani
set_option linter.unusedVariables false
def ToldF (D : DataW Value) (f : ByteArray → Option Value) : Prop :=
  Maps.Tidy D ∧ (∀ nm : ByteArray, Maps.has D (.string (bytesOf nm)) = (f nm).isSome) ∧ ∀ (nm : ByteArray) (v : Value), f nm = some v → ∀ zd, D.atKey (.string (bytesOf nm)) zd = .held v
theorem toldF_nil : ToldF (.map []) (fun _ => none) := ⟨Maps.tidy_empty, fun nm => rfl, fun nm v h => (by cases h)⟩
section
variable {D : DataW Value} {f g : ByteArray → Option Value}
theorem ToldF.congr (h : ToldF D f) (e : ∀ a, f a = g a) : ToldF D g := by
  rw [← (funext e : f = g)]; exact h
theorem ToldF.put (h : ToldF D f) (nm : ByteArray) (v : Value) : ToldF (D.put (.string (bytesOf nm)) (.held v)) (fun x => if nm = x then some v else f x) := by
  obtain ⟨h1, h2, h3⟩ := h
  refine ⟨h1.put (key_str _) _, fun x => ?_, fun x u hx zd => ?_⟩
  · by_cases e : nm = x
    · simp only [if_pos e]
      rw [← e, Maps.has_put_same h1.isMap (key_str _)]; rfl
    · simp only [if_neg e]
      rw [Maps.has_put_other (key_ne (Ne.symm e)), h2]
  · by_cases e : nm = x
    · simp only [if_pos e] at hx
      injection hx with hx
      rw [← e, Maps.atKey_put_same h1.isMap (key_str _), hx]
    · simp only [if_neg e] at hx
      rw [Maps.atKey_put_other (key_ne (Ne.symm e))]
      exact h3 x u hx zd
theorem ToldF.del (h : ToldF D f) (nm : ByteArray) : ToldF (D.del (.string (bytesOf nm))) (fun x => if nm = x then none else f x) := by
  obtain ⟨h1, h2, h3⟩ := h
  refine ⟨h1.del _, fun x => ?_, fun x u hx zd => ?_⟩
  · by_cases e : nm = x
    · simp only [if_pos e]
      rw [← e, Maps.has_del_same]; rfl
    · simp only [if_neg e]
      rw [Maps.has_del_other (key_ne (Ne.symm e)), h2]
  · by_cases e : nm = x
    · simp only [if_pos e] at hx
      cases hx
    · simp only [if_neg e] at hx
      rw [Maps.atKey_del_other (key_ne (Ne.symm e))]
      exact h3 x u hx zd
theorem ToldF.at_ (h : ToldF D f) {nm : ByteArray} {z v : Value} {ps : List MemPlace} (hv : valElem v = some (D.atKey (.string (bytesOf nm)) (.held z), ps)) : v = (f nm).getD z := by
  obtain ⟨h1, _⟩ := valElem_inv hv
  cases g : f nm with
  | none =>
    have h2 := h.2.1 nm
    rw [g] at h2
    rw [Maps.atKey_of_not_has h2] at h1
    injection h1 with h1
    exact h1.symm
  | some u =>
    rw [h.2.2 nm u g] at h1
    injection h1 with h1
    exact h1.symm
end
def OwnTold (w : World) (b n : Nat) (f : ByteArray → Option Value) : Prop := ∃ D, w.ownsMap Tryz.prog 9 valElem b n D ∧ ToldF D f
section
variable {w w' : World} {b n m : Nat} {f g : ByteArray → Option Value}
theorem OwnTold.made (w : World) : OwnTold (w.alloc (.map #[] 0)) w.heap.size 0 (fun _ => none) := ⟨_, World.ownsMap_made w _ _ _, toldF_nil⟩
theorem OwnTold.congr (h : OwnTold w b n f) (e : ∀ a, f a = g a) : OwnTold w b n g := by
  rw [← (funext e : f = g)]; exact h
theorem OwnTold.mono (h : OwnTold w b n f) (e : n ≤ m) : OwnTold w b m f := by
  obtain ⟨D, ⟨es, clock, h1, h2, h3, h4⟩, h5⟩ := h
  exact ⟨D, ⟨es, clock, h1, h2, Nat.le_trans h3 e, h4⟩, h5⟩
theorem OwnTold.lt (h : OwnTold w b n f) : b < w.heap.size := by obtain ⟨D, h1, _⟩ := h; exact h1.lt
theorem OwnTold.kept {row : Option Nat} (h : OwnTold w b n f) (hg : w.grownBy w' row) (hne : some b ≠ row) : OwnTold w' b n f := by
  obtain ⟨D, h1, h2⟩ := h
  exact ⟨D, h1.kept hg hne, h2⟩
theorem OwnTold.below (h : OwnTold w b n f) (hb : Below w.heap.size w w') : OwnTold w' b n f := h.kept (only_of_below hb none) (by simp)
theorem OwnTold.setCell (h : OwnTold w b n f) {a : Addr} (ha : b ≠ a.block) (u : Value) : OwnTold (w.setCell a u) b n f := by
  obtain ⟨D, h1, h2⟩ := h
  exact ⟨D, h1.setCell ha u, h2⟩
theorem OwnTold.block (h : OwnTold w b n f) : ∃ es clock, w.heap[b]? = some (.map es clock) := by
  obtain ⟨D, ⟨es, clock, h1, _⟩, _⟩ := h
  exact ⟨es, clock, h1⟩
theorem OwnTold.look (h : OwnTold w b n f) {t e : TypeId} (ht : Tryz.prog.underlying t = some (.map 9 e)) {z : Value} (hz : (zeroValue e).run Tryz.prog w = .ok z w) {nm : ByteArray} (hs : nm.size ≤ maxLen) :
    (Instr.lookup t (.map (some b)) (.string nm) false).run Tryz.prog w = .ok ((f nm).getD z) w := by
  obtain ⟨D, h1, h2⟩ := h
  obtain ⟨v, ps, hr, hv⟩ := h1.lookup keyed ht hz (zd := .held z) (zp := []) rfl (key_ofS nm hs)
  rw [← h2.at_ hv]
  exact hr
theorem OwnTold.look_ok (h : OwnTold w b n f) {t e : TypeId} (ht : Tryz.prog.underlying t = some (.map 9 e)) {z : Value} (hz : (zeroValue e).run Tryz.prog w = .ok z w) {nm : ByteArray} (hs : nm.size ≤ maxLen) :
    (Instr.lookup t (.map (some b)) (.string nm) true).run Tryz.prog w = .ok (.tuple #[(f nm).getD z, .bool (f nm).isSome]) w := by
  obtain ⟨D, h1, h2⟩ := h
  obtain ⟨v, ps, hr, hv⟩ := h1.look_ok keyed ht hz (zd := .held z) (zp := []) rfl (key_ofS nm hs)
  rw [← h2.at_ hv, ← h2.2.1 nm]
  exact hr
theorem OwnTold.put (h : OwnTold w b n f) {t e : TypeId} (ht : Tryz.prog.underlying t = some (.map 9 e)) (hn : n < maxLen) {nm : ByteArray} (hs : nm.size ≤ maxLen) (v : Value) :
    ∃ w', (Instr.mapUpdate t (.map (some b)) (.string nm) v).run Tryz.prog w = .ok () w' ∧ OwnTold w' b (n + 1) (fun x => if nm = x then some v else f x) ∧ w.mapTurned w' b := by
  obtain ⟨D, h1, h2⟩ := h
  obtain ⟨w', r1, r2, r3⟩ := h1.store keyed ht hn (key_ofS nm hs) (val := v) (d := .held v) (ps := []) rfl
  exact ⟨w', r1, ⟨_, r2, h2.put nm v⟩, r3⟩
theorem OwnTold.drop (h : OwnTold w b n f) {t e : TypeId} (ht : Tryz.prog.underlying t = some (.map 9 e)) {nm : ByteArray} (hs : nm.size ≤ maxLen) (ty : TypeId) :
    ∃ w', (Builtin.delete_ #[t, 9] ty #[.map (some b), .string nm]).run Tryz.prog w = .ok (.tuple #[]) w' ∧ OwnTold w' b n (fun x => if nm = x then none else f x) ∧ w.mapTurned w' b := by
  obtain ⟨D, h1, h2⟩ := h
  obtain ⟨w', r1, r2, r3⟩ := h1.drop keyed ht (key_ofS nm hs) ty
  exact ⟨w', r1, ⟨_, r2, h2.del nm⟩, r3⟩
end
end Go.Proofs.YtpicnbidbddggaaGreatDoor.MapV

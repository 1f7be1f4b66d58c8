/-
  Some texts of this claim, one behind the other: ReachMath. What each proves, and its condition, stands at its head.
-/
import Derived.Test.YtjbjdoioallpkaaGreatDoorZ28
import Derived.Test.YtjbjdoioallpkaaGreatDoorZ21
/-
  Plain mathematics of what may be needed: the names that needs reach by what is known; the document's way to them, again and again until nothing comes; the more is known, the more may be needed. No program.
-/
namespace Go.Proofs.YtjbjdoioallpkaaGreatDoor.Reach
open Go.RowKit Go.Lib Go.Proofs.YtjbjdoioallpkaaGreatDoor.Span Go.Proofs.YtjbjdoioallpkaaGreatDoor.Need Go.Proofs.YtjbjdoioallpkaaGreatDoor.Mani Go.Proofs.YtjbjdoioallpkaaGreatDoor.Wire Go.Proofs.YtjbjdoioallpkaaGreatDoor.Depot Go.Proofs.YtjbjdoioallpkaaGreatDoor.Index
set_option linter.unusedVariables false
/-- The names that releases of a name's manifest need. -/
def asksX (X : List Kn) (a : ByteArray) : List ByteArray := allN (getX X a).1
/-- What may be needed. -/
inductive May (X : List Kn) (root : List Nd) : ByteArray → Prop
  | root {a : ByteArray} (h : a ∈ namesS root) : May X root a
  | ask {a b : ByteArray} (h : May X root a) (k : b ∈ asksX X a) : May X root b
/-- A list of names that has just what may be needed. -/
def Reaches (X : List Kn) (root : List Nd) (L : List ByteArray) : Prop := RisesN L ∧ ∀ z, z ∈ L ↔ May X root z
theorem Reaches.unique {X : List Kn} {root : List Nd} {L M : List ByteArray} (h : Reaches X root L) (k : Reaches X root M) : L = M :=
  rises_unique h.1 k.1 fun z => (h.2 z).trans (k.2 z).symm
/-- Names put one by one behind others. -/
def addsN (out acc : List ByteArray) : List ByteArray := acc.foldl (fun o x => addF x false o) out
theorem addsN_ok (acc : List ByteArray) {out : List ByteArray} (h : RisesN out) : RisesN (addsN out acc) ∧ ∀ z, z ∈ addsN out acc ↔ z ∈ out ∨ z ∈ acc := fold_ok acc out h
theorem addsN_snoc (out acc : List ByteArray) (x : ByteArray) : addsN out (acc ++ [x]) = addF x false (addsN out acc) := by unfold addsN; rw [List.foldl_append]; rfl
theorem addsN_append (out acc acc' : List ByteArray) : addsN out (acc ++ acc') = addsN (addsN out acc) acc' := by unfold addsN; rw [List.foldl_append]
theorem addsN_nil (out : List ByteArray) : addsN out [] = out := rfl
theorem addsN_len (out acc : List ByteArray) : (addsN out acc).length ≤ out.length + acc.length := fold_len acc out
/-- One round: what the names of a list ask for. -/
def stepN (X : List Kn) (out l : List ByteArray) : List ByteArray := addsN out (l.flatMap (asksX X))
theorem stepN_snoc (X : List Kn) (out l : List ByteArray) (a : ByteArray) : stepN X out (l ++ [a]) = addsN (stepN X out l) (asksX X a) := by
  unfold stepN
  rw [List.flatMap_append, addsN_append]
  simp
theorem stepN_take {X : List Kn} {out l : List ByteArray} {i : Nat} {a : ByteArray} (h : l[i]? = some a) : stepN X out (l.take (i + 1)) = addsN (stepN X out (l.take i)) (asksX X a) := by rw [take_snoc' l i a h, stepN_snoc]
theorem stepN_ok (X : List Kn) {out : List ByteArray} (h : RisesN out) (l : List ByteArray) : RisesN (stepN X out l) ∧ ∀ z, z ∈ stepN X out l ↔ z ∈ out ∨ ∃ a ∈ l, z ∈ asksX X a := by
  obtain ⟨h1, h2⟩ := addsN_ok (l.flatMap (asksX X)) h
  refine ⟨h1, fun z => ?_⟩
  unfold stepN
  rw [h2, List.mem_flatMap]
/-- Lists that rise: one that is part of another, and no shorter, is the same. -/
theorem sub_of_rises : ∀ {m l : List ByteArray}, RisesN l → RisesN m → (∀ z, z ∈ l → z ∈ m) → l.Sublist m
  | [], [], _, _, _ => List.Sublist.slnil
  | [], x :: l, _, _, h => by have := h x (by simp); cases this
  | y :: m, [], _, _, _ => List.nil_sublist _
  | y :: m, x :: l, hl, hm, h => by
    obtain ⟨a1, a2⟩ := List.pairwise_cons.1 hl
    obtain ⟨b1, b2⟩ := List.pairwise_cons.1 hm
    by_cases e : x = y
    · subst e
      refine (sub_of_rises a2 b2 fun z hz => ?_).cons_cons x
      rcases List.mem_cons.1 (h z (List.mem_cons_of_mem _ hz)) with g | g
      · have := a1 z hz
        rw [g, nlt_self] at this
        cases this
      · exact g
    · refine (sub_of_rises hl b2 fun z hz => ?_).cons y
      rcases List.mem_cons.1 (h z hz) with g | g
      · subst g
        rcases List.mem_cons.1 hz with k | k
        · exact absurd k.symm e
        · have h1 := a1 z k
          rcases List.mem_cons.1 (h x (by simp)) with k2 | k2
          · exact absurd k2 e
          · have h2 := b1 x k2
            have := nlt_trans h1 h2
            rw [nlt_self] at this
            cases this
      · exact g
theorem len_of_sub {l m : List ByteArray} (hl : RisesN l) (hm : RisesN m) (h : ∀ z, z ∈ l → z ∈ m) : l.length ≤ m.length := (sub_of_rises hl hm h).length_le
theorem same_of_len {l m : List ByteArray} (hl : RisesN l) (hm : RisesN m) (h : ∀ z, z ∈ l → z ∈ m) (hlen : m.length ≤ l.length) : l = m := (sub_of_rises hl hm h).eq_of_length_le hlen
/-- How it stands between two rounds. -/
structure Under (X : List Kn) (root : List Nd) (out : List ByteArray) : Prop where
  rises : RisesN out
  may : ∀ z, z ∈ out → May X root z
  has : ∀ z, z ∈ namesS root → z ∈ out
theorem under_start (X : List Kn) (root : List Nd) : Under X root (foldN (namesS root)) :=
  ⟨foldN_rises _, fun z hz => .root ((foldN_mem _).1 hz), fun z hz => (foldN_mem _).2 hz⟩
theorem Under.step {X : List Kn} {root : List Nd} {out : List ByteArray} (h : Under X root out) : Under X root (stepN X out out) := by
  obtain ⟨h1, h2⟩ := stepN_ok X h.rises out
  refine ⟨h1, fun z hz => ?_, fun z hz => (h2 z).2 (.inl (h.has z hz))⟩
  rcases (h2 z).1 hz with g | ⟨a, ha, g⟩
  · exact h.may z g
  · exact .ask (h.may a ha) g
theorem Under.done {X : List Kn} {root : List Nd} {out : List ByteArray} (h : Under X root out) (hl : (stepN X out out).length = out.length) : Reaches X root out := by
  obtain ⟨h1, h2⟩ := stepN_ok X h.rises out
  have e : out = stepN X out out := same_of_len h.rises h1 (fun z hz => (h2 z).2 (.inl hz)) (by omega)
  refine ⟨h.rises, fun z => ⟨h.may z, fun hz => ?_⟩⟩
  induction hz with
  | root hr => exact h.has _ hr
  | ask _ hk ih => rw [e]; exact (h2 _).2 (.inr ⟨_, ih, hk⟩)
/-- All that may be needed is named by the needs or by what is known: so it ends. -/
def allX (X : List Kn) (root : List Nd) : List ByteArray := foldN (namesS root ++ X.flatMap fun q => allN q.2.1)
theorem may_all {X : List Kn} {root : List Nd} {z : ByteArray} (h : May X root z) : z ∈ allX X root := by
  unfold allX
  rw [foldN_mem, List.mem_append]
  induction h with
  | root hr => exact .inl hr
  | @ask a b _ hk _ =>
    refine .inr (List.mem_flatMap.2 ?_)
    unfold asksX getX at hk
    cases g : atX X a with
    | none => rw [g] at hk; cases hk
    | some k => rw [g] at hk; exact ⟨_, atX_in g, hk⟩
theorem Under.len {X : List Kn} {root : List Nd} {out : List ByteArray} (h : Under X root out) : out.length ≤ (allX X root).length := len_of_sub h.rises (foldN_rises _) fun z hz => may_all (h.may z hz)
theorem Under.grows {X : List Kn} {root : List Nd} {out : List ByteArray} (h : Under X root out) : out.length ≤ (stepN X out out).length :=
  len_of_sub h.rises h.step.rises fun z hz => ((stepN_ok X h.rises out).2 z).2 (.inl hz)
/-- The names that may be needed, as a list. -/
def reachX (X : List Kn) (root : List Nd) : List ByteArray := (allX X root).foldl (fun o _ => stepN X o o) (foldN (namesS root))
theorem reach_rounds {X : List Kn} {root : List Nd} : ∀ (L : List ByteArray) (out : List ByteArray), Under X root out → (allX X root).length < out.length + L.length + 1 → Reaches X root (L.foldl (fun o _ => stepN X o o) out)
  | [], out, h, hl => by
    refine h.done ?_
    have h1 := h.grows
    have h2 := h.step.len
    have h3 := h.len
    simp only [List.length_nil] at hl
    omega
  | _ :: t, out, h, hl => by
    rw [List.foldl_cons]
    rcases Nat.lt_or_ge out.length (stepN X out out).length with g | g
    · exact reach_rounds t _ h.step (by simp only [List.length_cons] at hl; omega)
    · have e : out = stepN X out out := same_of_len h.rises h.step.rises (fun z hz => ((stepN_ok X h.rises out).2 z).2 (.inl hz)) g
      have hd := h.done (by rw [← e])
      have fix : ∀ (t : List ByteArray), t.foldl (fun o _ => stepN X o o) out = out := fun t => by
        induction t with
        | nil => rfl
        | cons _ t ih => rw [List.foldl_cons, ← e]; exact ih
      rw [← e, fix]
      exact hd
theorem reachX_reaches (X : List Kn) (root : List Nd) : Reaches X root (reachX X root) := reach_rounds _ _ (under_start X root) (by omega)
theorem reachX_of {X : List Kn} {root : List Nd} {L : List ByteArray} (h : Reaches X root L) : L = reachX X root := h.unique (reachX_reaches X root)
/-- Those that are not known. -/
def missX (X : List Kn) (root : List Nd) : List ByteArray := (reachX X root).filter fun a => (atX X a).isNone
/-- The more is known, the more may be needed. -/
theorem may_grows {X Y : List Kn} {root : List Nd} (hk : ∀ a k, atX X a = some k → atX Y a = some k) {z : ByteArray} (h : May X root z) : May Y root z := by
  induction h with
  | root hr => exact .root hr
  | @ask a b _ hb ih =>
    refine .ask ih ?_
    unfold asksX getX at hb ⊢
    cases g : atX X a with
    | none => rw [g] at hb; cases hb
    | some k => rw [g] at hb; rw [hk a k g]; exact hb
/-- Of what is whole nothing more becomes needed. -/
theorem may_whole {X Y : List Kn} {root : List Nd} (hk : ∀ a k, atX X a = some k → atX Y a = some k) (hw : ∀ a, May X root a → (atX X a).isSome = true) {z : ByteArray} (h : May Y root z) : May X root z := by
  induction h with
  | root hr => exact .root hr
  | @ask a b _ hb ih =>
    have h1 := hw a ih
    refine .ask ih ?_
    unfold asksX getX at hb ⊢
    cases g : atX X a with
    | none => rw [g] at h1; cases h1
    | some k => rw [hk a k g] at hb; exact hb
/-- Each name is one of root's, or asked for by another one. -/
theorem may_from {X : List Kn} {root : List Nd} {z : ByteArray} (h : May X root z) : z ∈ namesS root ∨ ∃ a, May X root a ∧ z ∈ asksX X a := by
  cases h with
  | root hr => exact .inl hr
  | ask h k => exact .inr ⟨_, h, k⟩
end Go.Proofs.YtjbjdoioallpkaaGreatDoor.Reach

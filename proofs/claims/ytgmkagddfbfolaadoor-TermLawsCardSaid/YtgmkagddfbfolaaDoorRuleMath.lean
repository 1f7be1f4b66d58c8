/-
  Plain mathematics of rules: words and pieces of a text, what a comparison has as an interval, what a text is read as. No program.
-/
import Derived.Test.YtgmkagddfbfolaaDoorSpanMath
import Derived.Test.YtgmkagddfbfolaaDoorVerMath
namespace Go.Proofs.YtgmkagddfbfolaaDoor.Rule
open Go.RowKit Go.Lib Go.Proofs.YtgmkagddfbfolaaDoor.Span
open Go.Proofs.YtgmkagddfbfolaaDoor.Ver (txt readR rreadR afterN read_txt read_some rread_txt rread_some read_same txt_len)
set_option linter.unusedVariables false
/-- The signs' letters: = > < ^ ~. -/
def sg (b : UInt8) : Bool := b == 61 || b == 62 || b == 60 || b == 94 || b == 126
def topI : Int := 1000000000
/-- What a comparison of a sign and a version has, as an interval. -/
def ivOf (g : List UInt8) (p : Nat) : Option S :=
  if g = [61] then some ((p : Int), (p : Int) + 1)
  else if g = [62, 61] then some ((p : Int), 1000000000)
  else if g = [62] then some ((p : Int) + 1, 1000000000)
  else if g = [60, 61] then some (0, (p : Int) + 1)
  else if g = [60] then some (0, (p : Int))
  else if g = [94] then some ((p : Int), (afterN p (if p < 1000000 then 1 else 0) : Nat))
  else if g = [126] then some ((p : Int), (afterN p 1 : Nat))
  else none
def cmpI (w : List UInt8) : Option S :=
  match readR (str (w.dropWhile sg)) with
  | none => none
  | some p => ivOf (w.takeWhile sg) p
/-- How many bytes of a word are a sign, in the document's way. -/
def sgn : List UInt8 → Nat
  | [] => 0
  | [a] => if sg a then 1 else 0
  | a :: b :: _ => if b = 61 ∧ (a = 62 ∨ a = 60) then 2 else if sg a then 1 else 0
def rcmpI (w : List UInt8) : Option S :=
  match rreadR (str (w.drop (sgn w))) with
  | none => none
  | some p => if sgn w = 0 then none else ivOf (w.take (sgn w)) p
theorem txt_head (p : Nat) : ∃ d r, txt p = d :: r ∧ 48 ≤ d.toNat ∧ d.toNat ≤ 57 := by
  obtain ⟨l, h1, h2, h3, _⟩ := Ver.dec_cases (n := Ver.pA p) (by unfold Ver.pA; omega)
  cases l with
  | nil => simp at h3
  | cons d l =>
    have hd := h2 d (by simp)
    refine ⟨UInt8.ofNat (48 + d), l.map (fun d => UInt8.ofNat (48 + d)) ++ (46 :: (decDigits (Ver.pB p) ++ (46 :: decDigits (Ver.pC p)))), ?_, ?_, ?_⟩
    · unfold txt; rw [h1]; rfl
    · rw [UInt8.toNat_ofNat']; omega
    · rw [UInt8.toNat_ofNat']; omega
theorem sg_digit {d : UInt8} (h0 : 48 ≤ d.toNat) (h1 : d.toNat ≤ 57) : sg d = false ∧ d ≠ 61 := by
  have key : ∀ c : UInt8, 57 < c.toNat → d ≠ c := fun c hc e => by subst e; omega
  have a1 := key 61 (by decide)
  have a2 := key 62 (by decide)
  have a3 := key 60 (by decide)
  have a4 := key 94 (by decide)
  have a5 := key 126 (by decide)
  exact ⟨by simp [sg, a1, a2, a3, a4, a5], a1⟩
theorem drop_sg (g : List UInt8) (hg : ∀ b ∈ g, sg b = true) (p : Nat) : (g ++ txt p).dropWhile sg = txt p ∧ (g ++ txt p).takeWhile sg = g := by
  obtain ⟨d, r, hp, h0, h1⟩ := txt_head p
  have hd := (sg_digit h0 h1).1
  induction g with
  | nil => rw [List.nil_append, hp, List.dropWhile_cons, List.takeWhile_cons, hd]; simp
  | cons b g ih =>
    have hb := hg b (by simp)
    obtain ⟨i1, i2⟩ := ih fun c hc => hg c (by simp [hc])
    rw [List.cons_append, List.dropWhile_cons, List.takeWhile_cons, hb]
    simp [i1, i2]
theorem read_str {l : List UInt8} {p : Nat} (h : readR (str l) = some p) : l = txt p ∧ p < 1000000000 := by
  obtain ⟨h1, h2⟩ := read_some h
  exact ⟨str_inj.1 h1, h2⟩
theorem ivOf_some {g : List UInt8} {p : Nat} {i : S} (h : ivOf g p = some i) : g = [61] ∨ g = [62, 61] ∨ g = [62] ∨ g = [60, 61] ∨ g = [60] ∨ g = [94] ∨ g = [126] := by
  unfold ivOf at h
  repeat' split at h
  all_goals simp_all
theorem sgn_of {g : List UInt8} (hg : g = [61] ∨ g = [62, 61] ∨ g = [62] ∨ g = [60, 61] ∨ g = [60] ∨ g = [94] ∨ g = [126]) (p : Nat) : sgn (g ++ txt p) = g.length ∧ (∀ b ∈ g, sg b = true) := by
  obtain ⟨d, r, hp, h0, h1⟩ := txt_head p
  have hd := (sg_digit h0 h1).2
  rw [hp]
  rcases hg with rfl | rfl | rfl | rfl | rfl | rfl | rfl <;> (refine ⟨?_, by decide⟩; simp [sgn, hd]) <;> decide
theorem cmp_of {g : List UInt8} (hg : g = [61] ∨ g = [62, 61] ∨ g = [62] ∨ g = [60, 61] ∨ g = [60] ∨ g = [94] ∨ g = [126]) {p : Nat} (hp : p < 1000000000) : cmpI (g ++ txt p) = ivOf g p ∧ rcmpI (g ++ txt p) = ivOf g p := by
  obtain ⟨h1, h2⟩ := sgn_of hg p
  obtain ⟨h3, h4⟩ := drop_sg g h2 p
  constructor
  · unfold cmpI
    rw [h3, h4, read_txt hp]
  · unfold rcmpI
    rw [h1, List.drop_left, List.take_left, rread_txt hp]
    have : g.length ≠ 0 := by rcases hg with rfl | rfl | rfl | rfl | rfl | rfl | rfl <;> simp
    simp [this]
theorem cmp_some {w : List UInt8} {i : S} (h : cmpI w = some i) : ∃ g p, w = g ++ txt p ∧ p < 1000000000 ∧ ivOf g p = some i := by
  unfold cmpI at h
  cases hr : readR (str (w.dropWhile sg)) with
  | none => rw [hr] at h; cases h
  | some p =>
    rw [hr] at h
    obtain ⟨h1, h2⟩ := read_str hr
    exact ⟨w.takeWhile sg, p, by rw [← h1, List.takeWhile_append_dropWhile], h2, h⟩
theorem rcmp_some {w : List UInt8} {i : S} (h : rcmpI w = some i) : ∃ g p, w = g ++ txt p ∧ p < 1000000000 ∧ ivOf g p = some i := by
  unfold rcmpI at h
  cases hr : rreadR (str (w.drop (sgn w))) with
  | none => rw [hr] at h; cases h
  | some p =>
    rw [hr] at h
    obtain ⟨h1, h2⟩ := rread_some hr
    have h1 := str_inj.1 h1
    simp only at h
    split at h
    · cases h
    · exact ⟨w.take (sgn w), p, by rw [← h1, List.take_append_drop], h2, h⟩
theorem cmp_same (w : List UInt8) : rcmpI w = cmpI w := by
  cases h : cmpI w with
  | some i =>
    obtain ⟨g, p, rfl, hp, hi⟩ := cmp_some h
    rw [(cmp_of (ivOf_some hi) hp).2, hi]
  | none =>
    cases h' : rcmpI w with
    | none => rfl
    | some i =>
      obtain ⟨g, p, rfl, hp, hi⟩ := rcmp_some h'
      rw [(cmp_of (ivOf_some hi) hp).1, hi] at h
      cases h
/-- Words: their bytes, and their places. -/
abbrev W := List UInt8 × Nat
abbrev Pc := List W × Nat
def push (cur : List UInt8) (ws : List W) (b : Nat) : List W := if cur = [] then ws else ws ++ [(cur, b)]
/-- The pieces of a text, from a place on; what stands of the last word began at b. -/
def go : List UInt8 → Nat → List UInt8 → List W → List Pc
  | [], b, cur, ws => [(push cur ws b, b + cur.length)]
  | c :: l, b, cur, ws =>
    if c = 124 then (push cur ws b, b + cur.length) :: go l (b + cur.length + 1) [] []
    else if c = 32 then go l (b + cur.length + 1) [] (push cur ws b)
    else go l b (cur ++ [c]) ws
/-- The words of a piece. -/
def gow : List UInt8 → Nat → List UInt8 → List W → List W
  | [], b, cur, ws => push cur ws b
  | c :: l, b, cur, ws => if c = 32 then gow l (b + cur.length + 1) [] (push cur ws b) else gow l b (cur ++ [c]) ws
theorem go_piece (x : List UInt8) : ∀ (m : List UInt8) (b : Nat) (cur : List UInt8) (ws : List W), (∀ c ∈ x, c ≠ 124) →
    go (x ++ 124 :: m) b cur ws = (gow x b cur ws, b + cur.length + x.length) :: go m (b + cur.length + x.length + 1) [] [] := by
  induction x with
  | nil => intro m b cur ws _; simp [go, gow]
  | cons c x ih =>
    intro m b cur ws h
    have hc := h c (by simp)
    have hx : ∀ d ∈ x, d ≠ 124 := fun d hd => h d (by simp [hd])
    rw [List.cons_append, go, if_neg hc, gow]
    by_cases h32 : c = 32
    · rw [if_pos h32, if_pos h32, ih _ _ _ _ hx]
      simp only [List.length_cons, List.length_nil]
      congr 2 <;> omega
    · rw [if_neg h32, if_neg h32, ih _ _ _ _ hx]
      simp only [List.length_cons, List.length_append, List.length_nil]
      congr 2 <;> omega
theorem go_last (x : List UInt8) : ∀ (b : Nat) (cur : List UInt8) (ws : List W), (∀ c ∈ x, c ≠ 124) →
    go x b cur ws = [(gow x b cur ws, b + cur.length + x.length)] := by
  induction x with
  | nil => intro b cur ws _; simp [go, gow]
  | cons c x ih =>
    intro b cur ws h
    have hc := h c (by simp)
    have hx : ∀ d ∈ x, d ≠ 124 := fun d hd => h d (by simp [hd])
    rw [go, if_neg hc, gow]
    by_cases h32 : c = 32
    · rw [if_pos h32, if_pos h32, ih _ _ _ hx]
      simp only [List.length_cons, List.length_nil]
      congr 2; omega
    · rw [if_neg h32, if_neg h32, ih _ _ _ hx]
      simp only [List.length_cons, List.length_append, List.length_nil]
      congr 2; omega
/-- Two texts with a mark between. -/
theorem go_mark (x : List UInt8) : ∀ (m : List UInt8) (b : Nat) (cur : List UInt8) (ws : List W),
    go (x ++ 124 :: m) b cur ws = go x b cur ws ++ go m (b + cur.length + x.length + 1) [] [] := by
  induction x with
  | nil => intro m b cur ws; simp [go]
  | cons c x ih =>
    intro m b cur ws
    rw [List.cons_append, go, go]
    split
    · rw [ih]; simp only [List.length_cons, List.length_nil, List.cons_append]; congr 3; omega
    · split
      · rw [ih]; simp only [List.length_cons, List.length_nil]; congr 2; omega
      · rw [ih]; simp only [List.length_cons, List.length_append, List.length_nil]; congr 2; omega
/-- Two texts with a blank between, of which the first has no mark. -/
theorem gow_blank (x : List UInt8) : ∀ (m : List UInt8) (b : Nat) (cur : List UInt8) (ws : List W),
    gow (x ++ 32 :: m) b cur ws = gow m (b + cur.length + x.length + 1) [] (gow x b cur ws) := by
  induction x with
  | nil => intro m b cur ws; simp [gow]
  | cons c x ih =>
    intro m b cur ws
    rw [List.cons_append, gow, gow]
    split
    · rw [ih]; simp only [List.length_cons, List.length_nil]; congr 1; omega
    · rw [ih]; simp only [List.length_cons, List.length_append, List.length_nil]; congr 1; omega
theorem push_front (cur : List UInt8) (ws : List W) (b : Nat) (vs : List W) : push cur (vs ++ ws) b = vs ++ push cur ws b := by
  unfold push; split <;> simp
theorem gow_front (x : List UInt8) : ∀ (b : Nat) (cur : List UInt8) (vs ws : List W), gow x b cur (vs ++ ws) = vs ++ gow x b cur ws := by
  induction x with
  | nil => intro b cur vs ws; exact push_front _ _ _ _
  | cons c x ih =>
    intro b cur vs ws
    rw [gow, gow]
    split
    · rw [push_front, ih]
    · exact ih _ _ _ _
theorem push_texts (cur : List UInt8) (ws ws' : List W) (b b' : Nat) (h : ws.map Prod.fst = ws'.map Prod.fst) : (push cur ws b).map Prod.fst = (push cur ws' b').map Prod.fst := by
  unfold push; split <;> simp [h]
/-- A piece's words do not hang on where it stands. -/
theorem gow_texts (x : List UInt8) : ∀ (b b' : Nat) (cur : List UInt8) (ws ws' : List W), ws.map Prod.fst = ws'.map Prod.fst → (gow x b cur ws).map Prod.fst = (gow x b' cur ws').map Prod.fst := by
  induction x with
  | nil => intro b b' cur ws ws' h; exact push_texts _ _ _ _ _ h
  | cons c x ih =>
    intro b b' cur ws ws' h
    rw [gow, gow]
    split
    · exact ih _ _ _ _ _ (push_texts _ _ _ _ _ h)
    · exact ih _ _ _ _ _ h
theorem go_texts (x : List UInt8) : ∀ (b b' : Nat) (cur : List UInt8) (ws ws' : List W), ws.map Prod.fst = ws'.map Prod.fst → (go x b cur ws).map (fun q => q.1.map Prod.fst) = (go x b' cur ws').map (fun q => q.1.map Prod.fst) := by
  induction x with
  | nil => intro b b' cur ws ws' h; simp only [go, List.map_cons, List.map_nil]; rw [push_texts _ _ _ _ _ h]
  | cons c x ih =>
    intro b b' cur ws ws' h
    rw [go, go]
    split
    · simp only [List.map_cons]; rw [push_texts _ _ _ _ _ h, ih _ _ _ _ _ rfl]
    · split
      · exact ih _ _ _ _ _ (push_texts _ _ _ _ _ h)
      · exact ih _ _ _ _ _ h
theorem go_len (x : List UInt8) : ∀ (b : Nat) (cur : List UInt8) (ws : List W), (go x b cur ws).length ≤ x.length + 1 := by
  induction x with
  | nil => intro b cur ws; simp [go]
  | cons c x ih =>
    intro b cur ws
    rw [go]
    split
    · have := ih (b + cur.length + 1) [] []; simp only [List.length_cons]; omega
    · split
      · have := ih (b + cur.length + 1) [] (push cur ws b); simp only [List.length_cons]; omega
      · have := ih b (cur ++ [c]) ws; simp only [List.length_cons]; omega
/-- What both of two intervals have. -/
def inter (a b : S) : S := (Max.max a.1 b.1, Min.min a.2 b.2)
def anyL : List UInt8 := [97, 110, 121]
def noneL : List UInt8 := [110, 111, 110, 101]
/-- What a word has, alone in its piece, or not. -/
def mean (alone : Bool) (w : List UInt8) : Option S :=
  if alone = true ∧ w = anyL then some (0, 1000000000) else if alone = true ∧ w = noneL then some (0, 0) else cmpI w
/-- What all of some words have; or the place of the first that is wrong. -/
def meetI (alone : Bool) : S → List W → Except Nat S
  | a, [] => .ok a
  | a, (w, p) :: r => match mean alone w with
    | none => .error p
    | some i => meetI alone (inter a i) r
def pieceI (q : Pc) : Except Nat S := if q.1 = [] then .error q.2 else meetI (decide (q.1.length = 1)) (0, 1000000000) q.1
def readI : List S → List Pc → Except Nat (List S)
  | acc, [] => .ok acc
  | acc, q :: r => match pieceI q with
    | .error e => .error e
    | .ok i => readI (acc ++ [i]) r
/-- A text's pieces. -/
def cutL (s : List UInt8) : List Pc := go s 0 [] []
/-- What is read of a text: its set, a place, an error. -/
noncomputable def setOf (l : List S) : List S := nf (has l)
inductive Told where
  | ok : List S → Told
  | form : Nat → Told
  | long : Told
noncomputable def told (s : List UInt8) : Told :=
  if 400 < s.length then .long else match readI [] (cutL s) with
    | .error e => .form e
    | .ok l => if 6 < (setOf l).length then .long else .ok (setOf l)
/-! What words have does not hang on their places. -/
def meetT (alone : Bool) : S → List (List UInt8) → Option S
  | a, [] => some a
  | a, w :: r => match mean alone w with
    | none => none
    | some i => meetT alone (inter a i) r
theorem meet_T (alone : Bool) (ws : List W) : ∀ a, (meetI alone a ws).toOption = meetT alone a (ws.map Prod.fst) := by
  induction ws with
  | nil => intro a; rfl
  | cons w r ih =>
    intro a
    simp only [meetI, List.map_cons, meetT]
    cases mean alone w.1 with
    | none => rfl
    | some i => exact ih _
def pieceT (ws : List (List UInt8)) : Option S := if ws = [] then none else meetT (decide (ws.length = 1)) (0, 1000000000) ws
theorem piece_T (q : Pc) : (pieceI q).toOption = pieceT (q.1.map Prod.fst) := by
  unfold pieceI pieceT
  by_cases h : q.1 = []
  · rw [if_pos h, h]; rfl
  · rw [if_neg h, if_neg (by simpa using h), meet_T, List.length_map]
def readT : List S → List (List (List UInt8)) → Option (List S)
  | acc, [] => some acc
  | acc, q :: r => match pieceT q with
    | none => none
    | some i => readT (acc ++ [i]) r
theorem read_T (l : List Pc) : ∀ acc, (readI acc l).toOption = readT acc (l.map fun q => q.1.map Prod.fst) := by
  induction l with
  | nil => intro acc; rfl
  | cons q r ih =>
    intro acc
    simp only [readI, List.map_cons, readT]
    have hq := piece_T q
    cases hp : pieceI q with
    | error e => rw [hp] at hq; rw [← hq]; rfl
    | ok i => rw [hp] at hq; rw [← hq]; exact ih _
theorem readT_append (l m : List (List (List UInt8))) : ∀ acc, readT acc (l ++ m) = (readT acc l).bind fun a => readT a m := by
  induction l with
  | nil => intro acc; rfl
  | cons q r ih =>
    intro acc
    simp only [List.cons_append, readT]
    cases pieceT q with
    | none => rfl
    | some i => exact ih _
theorem readT_front (l : List (List (List UInt8))) : ∀ a b, readT (a ++ b) l = (readT b l).map (a ++ ·) := by
  induction l with
  | nil => intro a b; rfl
  | cons q r ih =>
    intro a b
    simp only [readT]
    cases pieceT q with
    | none => rfl
    | some i => simp only; rw [List.append_assoc]; exact ih _ _
theorem readT_len (l : List (List (List UInt8))) : ∀ a b, readT a l = some b → b.length = a.length + l.length := by
  induction l with
  | nil => intro a b h; injection h with h; subst h; rfl
  | cons q r ih =>
    intro a b h
    simp only [readT] at h
    cases hp : pieceT q with
    | none => rw [hp] at h; cases h
    | some i =>
      rw [hp] at h
      have := ih _ _ h
      simp at this ⊢
      omega
theorem toOption_some {e : Except Nat (List S)} {l : List S} : e.toOption = some l ↔ e = .ok l := by
  cases e with
  | error x => simp [Except.toOption]
  | ok x => simp [Except.toOption]
/-! Sets. -/
theorem setOf_set (l : List S) : isSet (-1) (setOf l) = true := nf_set _
theorem setOf_append (a b : List S) : setOf (a ++ b) = nf fun p => has (setOf a) p || has (setOf b) p := nf_congr fun p h0 h1 => by
  unfold setOf
  rw [has_append, nf_in _ h0 h1, nf_in _ h0 h1]
theorem setOf_inter (a b : S) : setOf [inter a b] = nf fun p => has (setOf [a]) p && has (setOf [b]) p := nf_congr fun p h0 h1 => by
  unfold setOf
  rw [nf_in _ h0 h1, nf_in _ h0 h1, has_one, has_one, has_one, Bool.eq_iff_iff]
  simp only [Bool.and_eq_true, decide_eq_true_eq]
  show max a.1 b.1 ≤ p ∧ p < min a.2 b.2 ↔ _
  have e1 : max a.1 b.1 ≤ p ↔ a.1 ≤ p ∧ b.1 ≤ p := by omega
  have e2 : p < min a.2 b.2 ↔ p < a.2 ∧ p < b.2 := by omega
  rw [e1, e2]
  constructor
  · rintro ⟨⟨x, y⟩, z, t⟩; exact ⟨⟨x, z⟩, y, t⟩
  · rintro ⟨⟨x, y⟩, z, t⟩; exact ⟨⟨x, z⟩, y, t⟩
theorem setOf_nil : setOf [] = [] := nf_nil.2 fun _ _ _ => rfl
theorem setOf_all : setOf [(0, 1000000000)] = [(0, 1000000000)] := (is_nf (L := [(0, 1000000000)]) (by decide) fun _ _ _ => rfl).symm
theorem setOf_none : setOf [(0, 0)] = [] := nf_nil.2 fun p _ _ => by rw [has_one]; simp
theorem setOf_self {l : List S} (h : isSet (-1) l = true) : setOf l = l := nf_self h
/-- A set has no more spans than what it is put together of. -/
theorem setOf_len (l : List S) : (setOf l).length ≤ l.length := by
  have h1 : ∀ s, s ∈ (some_ l).mergeSort (fun a b => decide (a.1 ≤ b.1)) ↔ s ∈ some_ l := fun s => List.mem_mergeSort
  have h2 : ((some_ l).mergeSort (fun a b => decide (a.1 ≤ b.1))).Pairwise (fun x y => x.1 ≤ y.1) := by
    have := List.pairwise_mergeSort (le := fun (a b : S) => decide (a.1 ≤ b.1)) (by intro a b c h h'; simp at *; omega) (by intro a b; simp; omega) (some_ l)
    exact this.imp (by intro a b h; simpa using h)
  have h3 := of_sorted h1 h2
  unfold setOf
  rw [← h3]
  have h4 : ∀ (d L : List S), (d.foldl put L).length ≤ L.length + d.length := by
    intro d
    induction d with
    | nil => intro L; simp
    | cons s t ih =>
      intro L
      have := ih (put L s)
      have := (put_length L s).1
      simp only [List.foldl_cons, List.length_cons]
      omega
  have := h4 ((some_ l).mergeSort (fun a b => decide (a.1 ≤ b.1))) []
  rw [List.length_mergeSort] at this
  have := some_length l
  simp at *
  omega
end Go.Proofs.YtgmkagddfbfolaaDoor.Rule

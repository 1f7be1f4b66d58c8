/-
  Plain mathematics: how a set is written, and that it is read as that set; two rules with a mark, or a blank, between. No program.
-/
import Derived.Test.YtgmkagddfbfolaaDoorRuleMath
namespace Go.Proofs.YtgmkagddfbfolaaDoor.Rule
open Go.RowKit Go.Lib Go.Proofs.YtgmkagddfbfolaaDoor.Span
open Go.Proofs.YtgmkagddfbfolaaDoor.Ver (txt readR afterN txt_len)
set_option linter.unusedVariables false
/-- The text of any place. -/
def tz (p : Int) : List UInt8 := if 0 ≤ p ∧ p < 1000000000 then txt p.toNat else []
theorem tz_in {p : Int} (h0 : 0 ≤ p) (h1 : p < 1000000000) : tz p = txt p.toNat := if_pos ⟨h0, h1⟩
/-- How a span is written. -/
def partL (s : S) : List UInt8 :=
  if s.2 = s.1 + 1 then 61 :: tz s.1
  else if s.1 = 0 then 60 :: tz s.2
  else if s.2 = 1000000000 then 62 :: 61 :: tz s.1
  else 62 :: 61 :: (tz s.1 ++ 32 :: 60 :: tz s.2)
def partWords (s : S) : List (List UInt8) :=
  if s.2 = s.1 + 1 then [61 :: tz s.1]
  else if s.1 = 0 then [60 :: tz s.2]
  else if s.2 = 1000000000 then [62 :: 61 :: tz s.1]
  else [62 :: 61 :: tz s.1, 60 :: tz s.2]
def joinL : List S → List UInt8
  | [] => []
  | [s] => partL s
  | s :: t => partL s ++ 32 :: 124 :: 32 :: joinL t
/-- How a set is written. -/
def showL (l : List S) : List UInt8 :=
  if isSet (-1) l = false then [] else if l = [] then noneL else if l = [(0, 1000000000)] then anyL else joinL l
theorem txt_byte (p : Nat) : ∀ b ∈ txt p, b = 46 ∨ (48 ≤ b.toNat ∧ b.toNat ≤ 57) := by
  have key : ∀ n, n < 1000 → ∀ b ∈ decDigits n, 48 ≤ b.toNat ∧ b.toNat ≤ 57 := by
    intro n hn b hb
    obtain ⟨l, h1, h2, _⟩ := Ver.dec_cases hn
    rw [h1, List.mem_map] at hb
    obtain ⟨d, hd, rfl⟩ := hb
    have := h2 d hd
    rw [UInt8.toNat_ofNat']; omega
  intro b hb
  unfold txt at hb
  simp only [List.mem_append, List.mem_cons] at hb
  rcases hb with hb | rfl | hb | rfl | hb
  · exact .inr (key _ (by unfold Ver.pA; omega) b hb)
  · exact .inl rfl
  · exact .inr (key _ (by unfold Ver.pB; omega) b hb)
  · exact .inl rfl
  · exact .inr (key _ (by unfold Ver.pC; omega) b hb)
theorem tz_byte (p : Int) : ∀ b ∈ tz p, b ≠ 32 ∧ b ≠ 124 := by
  intro b hb
  unfold tz at hb
  split at hb
  · rcases txt_byte _ b hb with rfl | h
    · decide
    · exact ⟨fun e => by subst e; exact absurd h.1 (by decide), fun e => by subst e; exact absurd h.2 (by decide)⟩
  · cases hb
theorem tz_len (p : Int) : (tz p).length ≤ 11 := by
  unfold tz; split
  · exact (txt_len _).2
  · simp
/-- A word at the head. -/
theorem gow_word (x : List UInt8) : ∀ (m : List UInt8) (b : Nat) (cur : List UInt8) (ws : List W), (∀ c ∈ x, c ≠ 32) → gow (x ++ m) b cur ws = gow m b (cur ++ x) ws := by
  induction x with
  | nil => intro m b cur ws _; simp
  | cons c x ih =>
    intro m b cur ws h
    rw [List.cons_append, gow, if_neg (h c (by simp)), ih _ _ _ _ fun d hd => h d (by simp [hd]), List.append_assoc]
    rfl
theorem gow_one (x : List UInt8) (b : Nat) (h : ∀ c ∈ x, c ≠ 32) (hx : x ≠ []) : (gow x b [] []).map Prod.fst = [x] ∧ (gow (x ++ [32]) b [] []).map Prod.fst = [x] := by
  constructor
  · have := gow_word x [] b [] [] h
    rw [List.append_nil] at this
    rw [this]
    simp [gow, push, hx]
  · rw [gow_word x [32] b [] [] h]
    simp [gow, push, hx]
theorem gow_two (x y : List UInt8) (b : Nat) (h : ∀ c ∈ x, c ≠ 32) (hx : x ≠ []) (h' : ∀ c ∈ y, c ≠ 32) (hy : y ≠ []) :
    (gow (x ++ 32 :: y) b [] []).map Prod.fst = [x, y] ∧ (gow (x ++ 32 :: y ++ [32]) b [] []).map Prod.fst = [x, y] := by
  constructor
  · rw [gow_word x _ b [] [] h]
    simp only [gow, push, if_true, List.nil_append, hx, if_false]
    have := gow_word y [] (b + x.length + 1) [] [(x, b)] h'
    rw [List.append_nil] at this
    rw [this]
    simp [gow, push, hy]
  · rw [List.append_assoc, gow_word x _ b [] [] h]
    simp only [gow, push, if_true, List.nil_append, hx, if_false, List.cons_append]
    rw [gow_word y [32] (b + x.length + 1) [] [(x, b)] h']
    simp [gow, push, hy]
theorem part_words (s : S) (b : Nat) : (gow (partL s) b [] []).map Prod.fst = partWords s ∧ (gow (partL s ++ [32]) b [] []).map Prod.fst = partWords s := by
  have h1 := fun c hc => (tz_byte s.1 c hc).1
  have h2 := fun c hc => (tz_byte s.2 c hc).1
  unfold partL partWords
  split
  · exact gow_one _ b (by intro c hc; rcases List.mem_cons.1 hc with rfl | hc; · decide
                          · exact h1 c hc) (by simp)
  · split
    · exact gow_one _ b (by intro c hc; rcases List.mem_cons.1 hc with rfl | hc; · decide
                            · exact h2 c hc) (by simp)
    · split
      · exact gow_one _ b (by intro c hc; simp only [List.mem_cons] at hc; rcases hc with rfl | rfl | hc; · decide
                              · decide
                              · exact h1 c hc) (by simp)
      · have := gow_two (62 :: 61 :: tz s.1) (60 :: tz s.2) b
          (by intro c hc; simp only [List.mem_cons] at hc; rcases hc with rfl | rfl | hc; · decide
              · decide
              · exact h1 c hc) (by simp)
          (by intro c hc; simp only [List.mem_cons] at hc; rcases hc with rfl | hc; · decide
              · exact h2 c hc) (by simp)
        simpa using this
theorem part_byte (s : S) : ∀ c ∈ partL s, c ≠ 124 := by
  have h1 := fun c hc => (tz_byte s.1 c hc).2
  have h2 := fun c hc => (tz_byte s.2 c hc).2
  intro c hc
  unfold partL at hc
  split at hc
  · rcases List.mem_cons.1 hc with rfl | hc
    · decide
    · exact h1 c hc
  · split at hc
    · rcases List.mem_cons.1 hc with rfl | hc
      · decide
      · exact h2 c hc
    · split at hc
      · simp only [List.mem_cons] at hc
        rcases hc with rfl | rfl | hc
        · decide
        · decide
        · exact h1 c hc
      · simp only [List.mem_cons, List.mem_append] at hc
        rcases hc with rfl | rfl | hc | rfl | rfl | hc
        · decide
        · decide
        · exact h1 c hc
        · decide
        · decide
        · exact h2 c hc
theorem part_len (s : S) : (partL s).length ≤ 26 := by
  have h1 := tz_len s.1
  have h2 := tz_len s.2
  unfold partL
  repeat' split
  all_goals simp only [List.length_cons, List.length_append] <;> omega
theorem join_len : ∀ l : List S, (joinL l).length ≤ 29 * l.length
  | [] => by simp [joinL]
  | [s] => by have := part_len s; simp [joinL]; omega
  | s :: t :: r => by
    have h1 := part_len s
    have h2 := join_len (t :: r)
    simp only [joinL, List.length_append, List.length_cons] at *
    omega
theorem join_words : ∀ (l : List S) (b : Nat), l ≠ [] → (go (joinL l) b [] []).map (fun q => q.1.map Prod.fst) = l.map partWords
  | [], _, h => absurd rfl h
  | [s], b, _ => by
    show (go (partL s) b [] []).map _ = _
    rw [go_last _ _ _ _ (part_byte s)]
    simp [(part_words s b).1]
  | s :: t :: r, b, _ => by
    have ih := join_words (t :: r)
    show (go (partL s ++ 32 :: 124 :: 32 :: joinL (t :: r)) b [] []).map _ = _
    have e : partL s ++ 32 :: 124 :: 32 :: joinL (t :: r) = (partL s ++ [32]) ++ 124 :: 32 :: joinL (t :: r) := by simp
    rw [e, go_piece _ _ _ _ _ (by intro c hc; rcases List.mem_append.1 hc with hc | hc; · exact part_byte s c hc
                                  · rw [List.mem_singleton.1 hc]; decide)]
    rw [List.map_cons, (part_words s b).2, go, if_neg (by decide), if_pos rfl]
    have e0 : ∀ k, push [] [] k = [] := fun _ => rfl
    rw [e0, ih _ (by simp)]
    rfl
theorem inter_top {s : S} (h0 : 0 ≤ s.1) (h1 : s.2 ≤ 1000000000) : inter (0, 1000000000) s = s := by
  unfold inter; refine Prod.ext ?_ ?_ <;> simp only <;> omega
theorem mean_cmp (f : Bool) {w : List UInt8} (h1 : w ≠ anyL) (h2 : w ≠ noneL) : mean f w = cmpI w := by
  unfold mean; simp [h1, h2]
theorem cmpG {g : List UInt8} (hg : g = [61] ∨ g = [62, 61] ∨ g = [62] ∨ g = [60, 61] ∨ g = [60] ∨ g = [94] ∨ g = [126]) {p : Int} (h0 : 0 ≤ p) (h1 : p < 1000000000) : cmpI (g ++ tz p) = ivOf g p.toNat := by
  rw [tz_in h0 h1]; exact (cmp_of hg (by omega)).1
theorem part_read (s : S) (h0 : 0 ≤ s.1) (h1 : s.1 < s.2) (h2 : s.2 ≤ 1000000000) (h3 : ¬ (s.1 = 0 ∧ s.2 = 1000000000)) : pieceT (partWords s) = some s := by
  have hn : ((s.1.toNat : Nat) : Int) = s.1 := by omega
  have c1 := cmpG (g := [61]) (.inl rfl) h0 (by omega : s.1 < 1000000000)
  have c2 := cmpG (g := [62, 61]) (.inr (.inl rfl)) h0 (by omega : s.1 < 1000000000)
  unfold partWords
  split
  · rename_i e
    simp only [pieceT, meetT, List.length_singleton, decide_true]
    rw [if_neg (by simp), mean_cmp _ (by simp [anyL]) (by simp [noneL]), show 61 :: tz s.1 = [61] ++ tz s.1 from rfl, c1]
    have : ivOf [61] s.1.toNat = some s := by simp only [ivOf, if_true, hn]; rw [← e]
    rw [this]
    simp only
    rw [inter_top h0 h2]
  · split
    · rename_i e1 e
      have c3 := cmpG (g := [60]) (by simp) (p := s.2) (by omega) (by omega)
      simp only [pieceT, meetT, List.length_singleton, decide_true]
      rw [if_neg (by simp), mean_cmp _ (by simp [anyL]) (by simp [noneL]), show 60 :: tz s.2 = [60] ++ tz s.2 from rfl, c3]
      have : ivOf [60] s.2.toNat = some s := by
        have : ((s.2.toNat : Nat) : Int) = s.2 := by omega
        simp [ivOf, this]; exact Prod.ext e.symm rfl
      rw [this]
      simp only
      rw [inter_top h0 h2]
    · split
      · rename_i e1 e2 e
        simp only [pieceT, meetT, List.length_singleton, decide_true]
        rw [if_neg (by simp), mean_cmp _ (by simp [anyL]) (by simp [noneL]), show 62 :: 61 :: tz s.1 = [62, 61] ++ tz s.1 from rfl, c2]
        have : ivOf [62, 61] s.1.toNat = some s := by simp [ivOf, hn]; exact Prod.ext rfl e.symm
        rw [this]
        simp only
        rw [inter_top h0 h2]
      · rename_i e1 e2 e
        have c3 := cmpG (g := [60]) (by simp) (p := s.2) (by omega) (by omega)
        simp only [pieceT, meetT]
        rw [if_neg (by simp), mean_cmp _ (by simp [anyL]) (by simp [noneL]), show 62 :: 61 :: tz s.1 = [62, 61] ++ tz s.1 from rfl, c2]
        have a1 : ivOf [62, 61] s.1.toNat = some (s.1, 1000000000) := by simp [ivOf, hn]
        rw [a1]
        simp only
        rw [mean_cmp _ (by simp [anyL]) (by simp [noneL]), show 60 :: tz s.2 = [60] ++ tz s.2 from rfl, c3]
        have a2 : ivOf [60] s.2.toNat = some (0, s.2) := by
          have : ((s.2.toNat : Nat) : Int) = s.2 := by omega
          simp [ivOf, this]
        rw [a2]
        simp only [inter]
        congr 1
        refine Prod.ext ?_ ?_ <;> simp only <;> omega
theorem parts_read : ∀ (l : List S) (acc : List S), (∀ s ∈ l, 0 ≤ s.1 ∧ s.1 < s.2 ∧ s.2 ≤ 1000000000 ∧ ¬ (s.1 = 0 ∧ s.2 = 1000000000)) → readT acc (l.map partWords) = some (acc ++ l)
  | [], acc, _ => by simp [readT]
  | s :: t, acc, h => by
    obtain ⟨a, b, c, d⟩ := h s (by simp)
    rw [List.map_cons, readT, part_read s a b c d]
    simp only
    rw [parts_read t _ fun x hx => h x (by simp [hx])]
    simp
theorem all_alone {l : List S} (h : isSet (-1) l = true) (hm : ((0, 1000000000) : S) ∈ l) : l = [(0, 1000000000)] := by
  refine unique _ _ (-1) h (by decide) fun p h0 h1 => ?_
  have : has l p = true := (has_iff l p).2 ⟨_, hm, by simp only; omega, by simp only; omega⟩
  rw [this, has_one]
  symm
  simp
  omega
theorem readI_of {s : List UInt8} {l : List S} (h : readT [] ((cutL s).map fun q => q.1.map Prod.fst) = some l) : readI [] (cutL s) = .ok l := by
  rw [← read_T] at h
  exact toOption_some.1 h
theorem told_of {s : List UInt8} {l : List S} (hs : s.length ≤ 400) (h : readT [] ((cutL s).map fun q => q.1.map Prod.fst) = some l) : told s = if 6 < (setOf l).length then .long else .ok (setOf l) := by
  unfold told
  rw [if_neg (by omega), readI_of h]
theorem told_none : told noneL = .ok [] := by
  have h : readT [] ((cutL noneL).map fun q => q.1.map Prod.fst) = some [(0, 0)] := by
    have : (cutL noneL).map (fun q => q.1.map Prod.fst) = [[noneL]] := by decide
    rw [this]
    simp [readT, pieceT, meetT, mean, anyL, noneL, inter]
    decide
  rw [told_of (by decide) h, setOf_none]
  rfl
theorem told_any : told anyL = .ok [(0, 1000000000)] := by
  have h : readT [] ((cutL anyL).map fun q => q.1.map Prod.fst) = some [(0, 1000000000)] := by
    have : (cutL anyL).map (fun q => q.1.map Prod.fst) = [[anyL]] := by decide
    rw [this]
    simp [readT, pieceT, meetT, mean, anyL, inter]
  rw [told_of (by decide) h, setOf_all]
  rfl
/-- What is written of a set is read as it. -/
theorem told_show {l : List S} (h : isSet (-1) l = true) (hn : l.length ≤ 6) : told (showL l) = .ok l := by
  unfold showL
  rw [if_neg (by rw [h]; simp)]
  split
  · rename_i e; rw [e]; exact told_none
  · split
    · rename_i e; rw [e]; exact told_any
    · rename_i e1 e2
      have hr : readT [] ((cutL (joinL l)).map fun q => q.1.map Prod.fst) = some l := by
        unfold cutL
        rw [join_words l 0 e1, parts_read]
        · rfl
        · intro s hs
          have := mem_range h s hs
          refine ⟨by omega, this.2.1, this.2.2.1, fun hh => e2 (all_alone h ?_)⟩
          rw [← hh.1, ← hh.2]; exact hs
      have hl := join_len l
      rw [told_of (by omega) hr, setOf_self h, if_neg (by omega)]
theorem show_len (l : List S) : (showL l).length ≤ 29 * l.length + 4 := by
  have := join_len l
  unfold showL
  repeat' split
  all_goals simp [noneL, anyL] <;> omega
/-! Two rules. -/
theorem told_ok {s : List UInt8} {a : List S} (h : told s = .ok a) : s.length ≤ 400 ∧ a.length ≤ 6 ∧ ∃ l, readT [] ((cutL s).map fun q => q.1.map Prod.fst) = some l ∧ a = setOf l ∧ readI [] (cutL s) = .ok l := by
  unfold told at h
  split at h
  · cases h
  · rename_i hs
    split at h
    · cases h
    · rename_i l hl
      split at h
      · cases h
      · rename_i hn
        injection h with h
        subst h
        exact ⟨by omega, by omega, l, by rw [← read_T, hl]; rfl, rfl, hl⟩
theorem told_mark {s t : List UInt8} {a b : List S} (hs : told s = .ok a) (ht : told t = .ok b) (hl : s.length + t.length ≤ 390) :
    told (s ++ 124 :: t) = if 6 < (nf fun p => has a p || has b p).length then .long else .ok (nf fun p => has a p || has b p) := by
  obtain ⟨_, _, l, h1, rfl, _⟩ := told_ok hs
  obtain ⟨_, _, m, h2, rfl, _⟩ := told_ok ht
  have h : readT [] ((cutL (s ++ 124 :: t)).map fun q => q.1.map Prod.fst) = some (l ++ m) := by
    unfold cutL at *
    rw [go_mark, List.map_append, readT_append, h1, go_texts t _ 0 [] [] [] rfl]
    simp only [Option.bind_some]
    have := readT_front ((go t 0 [] []).map fun q => q.1.map Prod.fst) l []
    rw [List.append_nil] at this
    rw [this, h2]
    rfl
  rw [told_of (by simp; omega) h, setOf_append]
/-- Neither a mark nor a letter. -/
def plainB (b : UInt8) : Bool := !(b == 124 || (decide (97 ≤ b.toNat) && decide (b.toNat ≤ 122)))
def plainL (l : List UInt8) : Bool := l.all plainB
theorem gow_bytes (x : List UInt8) (P : UInt8 → Prop) : ∀ (b : Nat) (cur : List UInt8) (ws : List W), (∀ c ∈ x, P c) → (∀ c ∈ cur, P c) → (∀ q ∈ ws, ∀ c ∈ q.1, P c) → ∀ q ∈ gow x b cur ws, ∀ c ∈ q.1, P c := by
  have hp : ∀ (b : Nat) (cur : List UInt8) (ws : List W), (∀ c ∈ cur, P c) → (∀ q ∈ ws, ∀ c ∈ q.1, P c) → ∀ q ∈ push cur ws b, ∀ c ∈ q.1, P c := by
    intro b cur ws h1 h2 q hq
    unfold push at hq
    split at hq
    · exact h2 q hq
    · rcases List.mem_append.1 hq with hq | hq
      · exact h2 q hq
      · rw [List.mem_singleton.1 hq]; exact h1
  induction x with
  | nil => intro b cur ws _ h1 h2; exact hp b cur ws h1 h2
  | cons c x ih =>
    intro b cur ws h h1 h2
    rw [gow]
    split
    · exact ih _ _ _ (fun d hd => h d (by simp [hd])) (fun d hd => by cases hd) (hp b cur ws h1 h2)
    · exact ih _ _ _ (fun d hd => h d (by simp [hd])) (fun d hd => by
        rcases List.mem_append.1 hd with hd | hd
        · exact h1 d hd
        · rw [List.mem_singleton.1 hd]; exact h c (by simp)) h2
theorem plain_mean {w : List UInt8} (h : ∀ c ∈ w, plainB c = true) (f : Bool) : mean f w = cmpI w := by
  refine mean_cmp f (fun e => ?_) (fun e => ?_)
  · have := h 97 (by rw [e]; decide); revert this; decide
  · have := h 110 (by rw [e]; decide); revert this; decide
theorem meetT_alone {ws : List (List UInt8)} (h : ∀ w ∈ ws, ∀ c ∈ w, plainB c = true) (f g : Bool) : ∀ a, meetT f a ws = meetT g a ws := by
  induction ws with
  | nil => intro a; rfl
  | cons w r ih =>
    intro a
    simp only [meetT]
    rw [plain_mean (h w (by simp)) f, plain_mean (h w (by simp)) g]
    cases cmpI w with
    | none => rfl
    | some i => exact ih (fun w hw => h w (by simp [hw])) _
theorem inter_assoc (a b c : S) : inter (inter a b) c = inter a (inter b c) := by
  unfold inter; refine Prod.ext ?_ ?_ <;> simp only <;> omega
theorem meetT_front (f : Bool) (ws : List (List UInt8)) : ∀ a b, meetT f (inter a b) ws = (meetT f b ws).map (inter a) := by
  induction ws with
  | nil => intro a b; rfl
  | cons w r ih =>
    intro a b
    simp only [meetT]
    cases mean f w with
    | none => rfl
    | some i => simp only; rw [inter_assoc, ih]
theorem meetT_append (f : Bool) (ws vs : List (List UInt8)) : ∀ a, meetT f a (ws ++ vs) = (meetT f a ws).bind fun b => meetT f b vs := by
  induction ws with
  | nil => intro a; rfl
  | cons w r ih =>
    intro a
    simp only [List.cons_append, meetT]
    cases mean f w with
    | none => rfl
    | some i => exact ih _
theorem told_plain {s : List UInt8} {a : List S} (h : told s = .ok a) (hp : plainL s = true) : ∃ i, a = setOf [i] ∧ ∀ f, meetT f (0, 1000000000) ((gow s 0 [] []).map Prod.fst) = some i ∧ gow s 0 [] [] ≠ [] := by
  have hp1 : ∀ c ∈ s, plainB c = true := fun c hc => List.all_eq_true.1 hp c hc
  have hp2 : ∀ c ∈ s, c ≠ 124 := fun c hc e => by have := hp1 c hc; rw [e] at this; revert this; decide
  obtain ⟨_, _, l, h1, rfl, _⟩ := told_ok h
  unfold cutL at h1
  rw [go_last _ _ _ _ hp2] at h1
  simp only [List.map_cons, List.map_nil, readT, List.nil_append] at h1
  cases hq : pieceT ((gow s 0 [] []).map Prod.fst) with
  | none => rw [hq] at h1; cases h1
  | some i =>
    rw [hq] at h1
    injection h1 with h1
    subst h1
    have hb := gow_bytes s (fun c => plainB c = true) 0 [] [] hp1 (fun c hc => by cases hc) (fun q hq => by cases hq)
    have hb' : ∀ w ∈ (gow s 0 [] []).map Prod.fst, ∀ c ∈ w, plainB c = true := fun w hw c hc => by
      obtain ⟨q, hq, rfl⟩ := List.mem_map.1 hw
      exact hb q hq c hc
    unfold pieceT at hq
    split at hq
    · cases hq
    · rename_i hne
      exact ⟨i, rfl, fun f => ⟨by rw [← hq]; exact meetT_alone hb' _ _ _, by simpa using hne⟩⟩
theorem told_blank {s t : List UInt8} {a b : List S} (hs : told s = .ok a) (ht : told t = .ok b) (hl : s.length + t.length ≤ 390) (ps : plainL s = true) (pt : plainL t = true) :
    told (s ++ 32 :: t) = .ok (nf fun p => has a p && has b p) := by
  obtain ⟨i, rfl, hi⟩ := told_plain hs ps
  obtain ⟨j, rfl, hj⟩ := told_plain ht pt
  have hp1 : ∀ (x : List UInt8), plainL x = true → ∀ c ∈ x, c ≠ 124 := fun x hx c hc e => by have := List.all_eq_true.1 hx c hc; rw [e] at this; revert this; decide
  have hst : ∀ c ∈ s ++ 32 :: t, c ≠ 124 := by
    intro c hc
    simp only [List.mem_append, List.mem_cons] at hc
    rcases hc with hc | rfl | hc
    · exact hp1 s ps c hc
    · decide
    · exact hp1 t pt c hc
  have hw : (gow (s ++ 32 :: t) 0 [] []).map Prod.fst = (gow s 0 [] []).map Prod.fst ++ (gow t 0 [] []).map Prod.fst := by
    rw [gow_blank]
    have := gow_front t (0 + ([] : List UInt8).length + s.length + 1) [] (gow s 0 [] []) []
    rw [List.append_nil] at this
    rw [this, List.map_append, gow_texts t _ 0 [] [] [] rfl]
  have hr : readT [] ((cutL (s ++ 32 :: t)).map fun q => q.1.map Prod.fst) = some [inter i j] := by
    unfold cutL
    rw [go_last _ _ _ _ hst]
    simp only [List.map_cons, List.map_nil, readT, List.nil_append, pieceT]
    rw [hw, if_neg (by simp [(hi true).2]), meetT_append, (hi _).1]
    simp only [Option.bind_some]
    have hi0 : inter i (0, 1000000000) = i := by
      have := meetT_front true ((gow s 0 [] []).map Prod.fst) (0, 1000000000) (0, 1000000000)
      rw [inter_top (by simp) (by simp), (hi _).1] at this
      simp only [Option.map_some, Option.some.injEq] at this
      rw [this]
      unfold inter; refine Prod.ext ?_ ?_ <;> simp only <;> omega
    have := meetT_front (decide (((gow s 0 [] []).map Prod.fst ++ (gow t 0 [] []).map Prod.fst).length = 1)) ((gow t 0 [] []).map Prod.fst) i (0, 1000000000)
    rw [hi0] at this
    rw [this, (hj _).1]
    rfl
  have h1 := setOf_len [inter i j]
  rw [List.length_singleton] at h1
  rw [told_of (by simp; omega) hr, if_neg (by omega), setOf_inter]
end Go.Proofs.YtgmkagddfbfolaaDoor.Rule
